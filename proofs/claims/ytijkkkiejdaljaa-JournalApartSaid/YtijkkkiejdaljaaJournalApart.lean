/- JournalApart: a journal writes none but its own blocks; no condition. -/
import Derived.Test.YtijkkkiejdaljaaJrMarks
import Derived.Test.YtijkkkiejdaljaaJrFew
namespace Go.Proofs.Ytijkkkiejdaljaa
open Go.RowKit Go.Maps

set_option maxRecDepth 1000000 in
set_option maxHeartbeats 8000000 in
theorem journalApart_any (x : Case) (w : World) (hx : CaseIn w x) : Calls Try.prog 6 #[caseV x] w (Yes w) := by
  have hfew := fun w' (h : CaseIn w' x) => few_any x w' h
  obtain ⟨fr, sz, a, sq, lv, L⟩ := x
  obtain ⟨la, lc, hlv⟩ := hx.1.shape
  simp only at hlv
  subst hlv
  have hb0 := (Below.refl w.heap.size w).alloc (Nat.le_refl _) (.cells #[.int .u8 (fr.toNat : Int), .int .u8 (sz.toNat : Int), .int .u8 (a.toNat : Int), .int .u64 (sq : Int), .slice la L.length lc] 25)
  have hc0 := Cel.new w #[.int .u8 (fr.toNat : Int), .int .u8 (sz.toNat : Int), .int .u8 (a.toNat : Int), .int .u64 (sq : Int), .slice la L.length lc] 25
  have H0 := Lib.hid (And.intro hb0 (And.intro hc0 (And.intro (hx.below hb0) hfew)))
  have hsz0 : (w.alloc (.cells #[.int .u8 (fr.toNat : Int), .int .u8 (sz.toNat : Int), .int .u8 (a.toNat : Int), .int .u64 (sq : Int), .slice la L.length lc] 25)).heap.size = w.heap.size + 1 := by simp
  have HZ := Lib.hid hsz0
  clear hb0 hc0 hx hfew hsz0
  go_enter Try.func6, Try.ntmps6
  go_wp2_with fail
  generalize w.alloc (.cells #[.int .u8 (fr.toNat : Int), .int .u8 (sz.toNat : Int), .int .u8 (a.toNat : Int), .int .u64 (sq : Int), .slice la L.length lc] 25) = w1 at *
  refine (H0.out.2.2.2 _ H0.out.2.2.1).mono ?_
  rintro e w2 ⟨B, rfl, hB, b2⟩
  have hbw2 := H0.out.1.trans (b2.mono H0.out.1.size)
  have hc2 := H0.out.2.1.kept (b2.block w.heap.size (by rw [HZ.out]; omega))
  have hx2 := H0.out.2.2.1.below b2
  have hlt2 : w.heap.size < w2.heap.size := by have := b2.size; have := HZ.out; omega
  have H2 := Lib.hid (And.intro hbw2 (And.intro hc2 (And.intro hx2 hlt2)))
  clear b2 hbw2 hc2 hx2 hlt2 H0 HZ
  cases B with
  | false =>
    clear hB
    go_wp2_with fail
    refine (works_any _).mono ?_
    rintro e w3 ⟨rfl, b3⟩
    go_wp2
    go_ret
    exact ⟨rfl, H2.out.1.trans (b3.mono H2.out.1.size)⟩
  | true =>
    have HF := Lib.hid (hB rfl)
    clear hB
    have h1 : Calls Try.prog 21 #[.int .i64 60] w2 _ := m_new 60 w2 (by decide) (by decide)
    have H1 := Lib.hid h1
    clear h1
    go_wp2_with fail
    refine H1.out.mono ?_
    rintro e w3 ⟨b, rfl, F, hD, fo, hu⟩
    have H3 := Lib.hid (And.intro hD (And.intro fo hu))
    have hc3 := H2.out.2.1.kept (hu.block w.heap.size H2.out.2.2.2)
    have k0 : w3.cell? ⟨w.heap.size, 0, none⟩ = some (.int .u8 (fr.toNat : Int)) := by rw [hc3.cell]; rfl
    have k1 : w3.cell? ⟨w.heap.size, 1, none⟩ = some (.int .u8 (sz.toNat : Int)) := by rw [hc3.cell]; rfl
    clear hc3 hD fo hu H1
    have hfr := fr.toNat_lt
    have hsz := sz.toNat_lt
    go_wp2
    have efr : (1 : Int) + (fr.toNat : Int) % 20 = ((1 + fr.toNat % 20 : Nat) : Int) := by omega
    have esz : (2 : Int) + (sz.toNat : Int) % 30 = ((2 + sz.toNat % 30 : Nat) : Int) := by omega
    rw [efr, esz]
    obtain ⟨f, hf⟩ : ∃ f, 1 + fr.toNat % 20 = f := ⟨_, rfl⟩
    obtain ⟨z, hz⟩ : ∃ z, 2 + sz.toNat % 30 = z := ⟨_, rfl⟩
    rw [hf, hz]
    have HN := Lib.hid (show f + z ≤ 60 ∧ 2 ≤ z ∧ f ≤ 60 ∧ z ≤ 60 by omega)
    clear efr esz hf hz
    -- the blocks get their letters
    go_loopw [7] (fun i wr => ∃ r F D, r ≤ 60 ∧ i = .int .i64 ((r : Nat) : Int) ∧ Dev wr b D F ∧ (∀ q, F q → w2.heap.size ≤ q) ∧ Below w2.heap.size w2 wr ∧ AD D r) (fun i _ => 60 - (intOf i).toNat)
    case atStart => exact ⟨0, F, _, by omega, rfl, H3.out.1, H3.out.2.1, H3.out.2.2, AD.start⟩
    case round =>
      obtain ⟨r, F, D, hr, rfl, hD, fo, hu, hA⟩ := hrel
      by_cases hlt : r < 60
      · have hlt' : (r : Int) < 60 := by omega
        obtain ⟨w4, hmk, o4, g4⟩ := run_zeros_bs bt wr wr.heap.size .i64 .i64 512 (by decide) (Nat.le_refl _)
        rw [show ((512 : Nat) : Int) = 512 from rfl] at hmk
        have b4 : Below wr.heap.size wr w4 := (Below.refl _ _).grown g4 (Nat.le_refl _) (fun _ h => by cases h)
        have hat := o4.at 0 (by rw [List.length_replicate]; decide)
        have c4 : w4.cell? ⟨wr.heap.size, 0, none⟩ = some (bv 0) := hat.1
        have f4 := hat.2.1
        have H4 := Lib.hid (And.intro o4 (And.intro b4 (And.intro hD (And.intro fo (And.intro hu hA)))))
        unfold bv at c4
        clear hat o4 b4 g4 hD fo hu hA
        go_wp2_with fail
        have hv : Value.int .u8 ((r : Int) + 1) = bv (UInt8.ofNat (r + 1)) := by
          unfold bv
          rw [UInt8.toNat_ofNat']
          congr 1
          omega
        rw [hv]
        have o5 := H4.out.1.set 0 (UInt8.ofNat (r + 1))
        rw [mkB_set] at o5
        have on5 := (Only.refl (fun q => q = wr.heap.size) w4).setCell (p := ⟨wr.heap.size, 0, none⟩) (.inl rfl) (bv (UInt8.ofNat (r + 1)))
        have hD5 := (H4.out.2.2.1.below H4.out.2.1).other on5 fun q hq e => by have := H4.out.2.2.1.fl q hq; omega
        have hu5 : Below w2.heap.size w2 (w4.setCell ⟨wr.heap.size, 0, none⟩ (bv (UInt8.ofNat (r + 1)))) :=
          (H4.out.2.2.2.2.1.trans (H4.out.2.1.mono H4.out.2.2.2.2.1.size)).setCell (p := ⟨wr.heap.size, 0, none⟩) H4.out.2.2.2.2.1.size _
        obtain ⟨hc, hA⟩ := H4.out.2.2.2.2.2.write hlt
        have hw := dwrite_any hD5 (H4.out.2.2.2.2.2.upto.small (by omega)) (r : Nat) o5.bs (fun q hq hF => by
          have h1 := (o5.own hq).1
          have h2 := H4.out.2.2.1.fl q hF
          omega)
        rw [hc] at hw
        have H5 := Lib.hid (And.intro hw (And.intro hu5 hA))
        clear hv o5 on5 hD5 hu5 hc hA hw
        generalize w4.setCell ⟨wr.heap.size, 0, none⟩ (bv (UInt8.ofNat (r + 1))) = w5 at *
        refine H5.out.1.mono ?_
        rintro e w6 ⟨rfl, hD6, ho6⟩
        have hu6 := H5.out.2.1.trans (ho6.below H5.out.2.1.size H4.out.2.2.2.1)
        have fo6 : ∀ q, Grow F w5 w6 q → w2.heap.size ≤ q := fun q hq => hq.elim (H4.out.2.2.2.1 q) fun hq => by have := H5.out.2.1.size; omega
        have H6 := Lib.hid (And.intro hD6 (And.intro fo6 (And.intro hu6 H5.out.2.2)))
        clear hD6 ho6 hu6 fo6 H5
        go_wp2
        go_roundw
        case rel => exact ⟨r + 1, _, _, by omega, by go_num, H6.out.1, H6.out.2.1, H6.out.2.2.1, H6.out.2.2.2⟩
        case measure => simp [intOf]; omega
      · obtain rfl : r = 60 := by omega
        clear k0 k1
        have hc4 := H2.out.2.1.kept (hu.block w.heap.size H2.out.2.2.2)
        have H4 := Lib.hid (And.intro hD (And.intro fo (And.intro hu (And.intro hA hc4))))
        clear hD fo hu hA hc4 H3
        go_wp2
        -- the journal is opened
        have hal := a.toNat_lt
        have hq61 : (sq : Int) ≤ 2305843009213693952 := by have := HF.out.2.1; simp only at this; omega
        have hz2 : (2 : Int) ≤ (z : Int) := by have := HN.out.2.1; omega
        have hz3 : (z : Int) ≤ 60 := by have := HN.out.2.2.2; omega
        have hne : ¬ (z : Int) = 0 := by omega
        have HX := Lib.hid (fun (W : World) (hW : W.heap[w.heap.size]? = wr.heap[w.heap.size]?) => And.intro (show W.cell? ⟨w.heap.size, 2, none⟩ = some (.int .u8 (a.toNat : Int)) by rw [(H4.out.2.2.2.2.kept hW).cell]; rfl) (show W.cell? ⟨w.heap.size, 3, none⟩ = some (.int .u64 (sq : Int)) by rw [(H4.out.2.2.2.2.kept hW).cell]; rfl))
        refine region_till 99 (fun W => W.heap[w.heap.size]? = wr.heap[w.heap.size]?) (by kernel_rfl) rfl (fun hS => ?_)
        refine take_till (i := 0) (some 56) (ptr b) rfl rfl (by kernel_rfl) (by kernel_rfl) (by kernel_rfl) (by kernel_rfl) (by decide) (fun _ _ _ h => h) (by rfl) (fun W hW => ?_) hS ?_
        · obtain ⟨c2, c3⟩ := HX.out W hW
          clear hW
          go_simp
        simp only [Act.put, List.setIfInBounds_toArray, List.set_cons_zero, List.set_cons_succ]
        refine take_till (i := 1) (some 57) (.int .i64 (f : Int)) rfl rfl (by kernel_rfl) (by kernel_rfl) (by kernel_rfl) (by kernel_rfl) (by decide) (fun _ _ _ h => h) (by rfl) (fun W hW => ?_) hS ?_
        · obtain ⟨c2, c3⟩ := HX.out W hW
          clear hW
          go_simp
        simp only [Act.put, List.setIfInBounds_toArray, List.set_cons_zero, List.set_cons_succ]
        refine take_till (i := 2) (some 58) (.int .i64 (z : Int)) rfl rfl (by kernel_rfl) (by kernel_rfl) (by kernel_rfl) (by kernel_rfl) (by decide) (fun _ _ _ h => h) (by rfl) (fun W hW => ?_) hS ?_
        · obtain ⟨c2, c3⟩ := HX.out W hW
          clear hW
          go_simp
        simp only [Act.put, List.setIfInBounds_toArray, List.set_cons_zero, List.set_cons_succ]
        refine take_till (i := 3) (some 59) (.pointer (some ⟨w.heap.size, 2, none⟩)) rfl rfl (by kernel_rfl) (by kernel_rfl) (by kernel_rfl) (by kernel_rfl) (by decide) (fun _ _ _ h => h) (by rfl) (fun W hW => ?_) hS ?_
        · obtain ⟨c2, c3⟩ := HX.out W hW
          clear hW
          go_simp
        simp only [Act.put, List.setIfInBounds_toArray, List.set_cons_zero, List.set_cons_succ]
        refine take_till (i := 4) (some 60) (.int .u8 (a.toNat : Int)) rfl rfl (by kernel_rfl) (by kernel_rfl) (by kernel_rfl) (by kernel_rfl) (by decide) (fun _ _ _ h => h) (by rfl) (fun W hW => ?_) hS ?_
        · obtain ⟨c2, c3⟩ := HX.out W hW
          clear hW
          go_simp
        simp only [Act.put, List.setIfInBounds_toArray, List.set_cons_zero, List.set_cons_succ]
        refine take_till (i := 5) (some 61) (.int .i64 (a.toNat : Int)) rfl rfl (by kernel_rfl) (by kernel_rfl) (by kernel_rfl) (by kernel_rfl) (by decide) (fun _ _ _ h => h) (by rfl) (fun W hW => ?_) hS ?_
        · obtain ⟨c2, c3⟩ := HX.out W hW
          clear hW
          go_simp
          exact IntWalk.i64_in _ (by omega)
        simp only [Act.put, List.setIfInBounds_toArray, List.set_cons_zero, List.set_cons_succ]
        refine take_till (i := 6) (some 62) (.int .i64 (z : Int)) rfl rfl (by kernel_rfl) (by kernel_rfl) (by kernel_rfl) (by kernel_rfl) (by decide) (fun _ _ _ h => h) (by rfl) (fun W hW => ?_) hS ?_
        · obtain ⟨c2, c3⟩ := HX.out W hW
          clear hW
          go_simp
        simp only [Act.put, List.setIfInBounds_toArray, List.set_cons_zero, List.set_cons_succ]
        refine take_till (i := 7) (some 63) (.int .i64 ((a.toNat % z : Nat) : Int)) rfl rfl (by kernel_rfl) (by kernel_rfl) (by kernel_rfl) (by kernel_rfl) (by decide) (fun _ _ _ h => h) (by rfl) (fun W hW => ?_) hS ?_
        · obtain ⟨c2, c3⟩ := HX.out W hW
          clear hW
          go_simp
          rw [if_neg (by omega), Int.tmod_eq_emod_of_nonneg (by omega)]
        simp only [Act.put, List.setIfInBounds_toArray, List.set_cons_zero, List.set_cons_succ]
        refine take_till (i := 8) (some 64) (.pointer (some ⟨w.heap.size, 3, none⟩)) rfl rfl (by kernel_rfl) (by kernel_rfl) (by kernel_rfl) (by kernel_rfl) (by decide) (fun _ _ _ h => h) (by rfl) (fun W hW => ?_) hS ?_
        · obtain ⟨c2, c3⟩ := HX.out W hW
          clear hW
          go_simp
        simp only [Act.put, List.setIfInBounds_toArray, List.set_cons_zero, List.set_cons_succ]
        refine take_till (i := 9) (some 65) (.int .u64 (sq : Int)) rfl rfl (by kernel_rfl) (by kernel_rfl) (by kernel_rfl) (by kernel_rfl) (by decide) (fun _ _ _ h => h) (by rfl) (fun W hW => ?_) hS ?_
        · obtain ⟨c2, c3⟩ := HX.out W hW
          clear hW
          go_simp
        simp only [Act.put, List.setIfInBounds_toArray, List.set_cons_zero, List.set_cons_succ]
        refine take_till (i := 10) (some 66) (.int .u64 ((sq + 1 : Nat) : Int)) rfl rfl (by kernel_rfl) (by kernel_rfl) (by kernel_rfl) (by kernel_rfl) (by decide) (fun _ _ _ h => h) (by rfl) (fun W hW => ?_) hS ?_
        · obtain ⟨c2, c3⟩ := HX.out W hW
          clear hW
          go_simp
          exact IntWalk.u64_in _ (by omega)
        simp only [Act.put, List.setIfInBounds_toArray, List.set_cons_zero, List.set_cons_succ]
        refine next_till 11 (by kernel_rfl) rfl (fun K hK => ?_)
        go_simp
        have hbd : Below wr.heap.size wr wr.drew := below_drewN (Below.refl wr.heap.size wr) 1
        have hud : Below w2.heap.size w2 wr.drew := below_drewN H4.out.2.2.1 1
        have hop := aj_open (w0 := w2) (fr := f) (sz := z) (s := sq + 1) (H4.out.1.below hbd) H4.out.2.1 hud H4.out.2.2.2.1 (a := a.toNat % z) HN.out.1 HN.out.2.1 (Nat.mod_lt _ (by omega)) ⟨by omega, by omega⟩
        refine hop.mono ?_
        rintro e w5 ⟨pa, pc, J, rfl, hm, hj, b5⟩
        have S5' : w5.heap[w.heap.size]? = wr.heap[w.heap.size]? := (hbd.trans b5).block _ H4.out.2.2.2.2.lt
        have hm' : JM w2 w5 b wr.heap.size J _ _ := hm
        have H5 := Lib.hid (And.intro hm' (And.intro hj (H4.out.2.2.2.2.kept S5')))
        have hzz : wr.drew.heap.size = wr.heap.size := rfl
        rw [hzz]
        refine hK.out _ _ (fun _ => S5') ?_
        clear hK K hS hop hm hm' hj b5 hbd hud HX hzz
        generalize wr.heap.size = jb at *
        have hS := S5'
        refine next_till 12 (by kernel_rfl) rfl (fun K hK => ?_)
        go_simp
        refine hK.out _ _ (fun _ => S5') ?_
        clear hK K
        refine take_till (i := 13) (some 68) (ptr jb) rfl rfl (by kernel_rfl) (by kernel_rfl) (by kernel_rfl) (by kernel_rfl) (by decide) (fun _ _ _ h => h) (by rfl) (fun W hW => ?_) hS ?_
        · skip
          clear hW
          go_simp
        simp only [Act.put, List.setIfInBounds_toArray, List.set_cons_zero, List.set_cons_succ]
        refine take_till (i := 14) (some 69) (.slice pa 0 pc) rfl rfl (by kernel_rfl) (by kernel_rfl) (by kernel_rfl) (by kernel_rfl) (by decide) (fun _ _ _ h => h) (by rfl) (fun W hW => ?_) hS ?_
        · skip
          clear hW
          go_simp
        simp only [Act.put, List.setIfInBounds_toArray, List.set_cons_zero, List.set_cons_succ]
        refine take_till (i := 15) (some 70) (err 0) rfl rfl (by kernel_rfl) (by kernel_rfl) (by kernel_rfl) (by kernel_rfl) (by decide) (fun _ _ _ h => h) (by rfl) (fun W hW => ?_) hS ?_
        · skip
          clear hW
          go_simp
        simp only [Act.put, List.setIfInBounds_toArray, List.set_cons_zero, List.set_cons_succ]
        refine take_till (i := 16) (some 9) (ptr jb) rfl rfl (by kernel_rfl) (by kernel_rfl) (by kernel_rfl) (by kernel_rfl) (by decide) (fun _ _ _ h => h) (by rfl) (fun W hW => ?_) hS ?_
        · skip
          clear hW
          go_simp
        simp only [Act.put, List.setIfInBounds_toArray, List.set_cons_zero, List.set_cons_succ]
        refine take_till (i := 17) (some 10) (.slice pa 0 pc) rfl rfl (by kernel_rfl) (by kernel_rfl) (by kernel_rfl) (by kernel_rfl) (by decide) (fun _ _ _ h => h) (by rfl) (fun W hW => ?_) hS ?_
        · skip
          clear hW
          go_simp
        simp only [Act.put, List.setIfInBounds_toArray, List.set_cons_zero, List.set_cons_succ]
        refine next_till 18 (by kernel_rfl) rfl (fun K hK => ?_)
        go_simp
        refine hK.out _ _ (fun _ => S5') ?_
        clear hK K
        refine done_till (by kernel_rfl) ?_ _
        clear S5' hS H4
        go_wp2
        have hll : (L.length : Int) ≤ 60 := by have := HF.out.1; simp only at this; omega
        go_loopw [12] (fun i wq => ∃ r J D F, r ≤ L.length ∧ i = .int .i64 ((r : Nat) : Int) ∧ JM w2 wq b jb J D F ∧ AJ f z (sq + 1 + r) J D (60 + 20 * r) ∧ Cel wq w.heap.size [.int .u8 (fr.toNat : Int), .int .u8 (sz.toNat : Int), .int .u8 (a.toNat : Int), .int .u64 (sq : Int), .slice la L.length lc] 25) (fun i _ => L.length - (intOf i).toNat)
        case atStart => exact ⟨0, J, _, _, by omega, rfl, H5.out.1, H5.out.2.1.more (by omega) (by omega), H5.out.2.2⟩
        case round =>
          obtain ⟨r, J', D', F', hr, rfl, hm, hj, hcq⟩ := hrel
          have k4 : wr.cell? ⟨w.heap.size, 4, none⟩ = some (.slice la L.length lc) := by rw [hcq.cell]; rfl
          by_cases hlt : r < L.length
          · have hlt' : (r : Int) < (L.length : Int) := by omega
            have hr0 : (0 : Int) ≤ (r : Int) := by omega
            obtain ⟨st, hst⟩ : ∃ s, L[r]? = some s := ⟨_, List.getElem?_eq_getElem hlt⟩
            obtain ⟨g, o, cap, e, hg, ⟨c0, c1, c2, c3, c4⟩, hi, hn⟩ := (H2.out.2.2.1.1.below hm.under).open hst
            have hgw2 : g < w2.heap.size := by
              obtain ⟨g', o', cap', e', hg', _⟩ := H2.out.2.2.1.1.open hst
              simp only at e e'
              rw [e] at e'
              simp only [Value.slice.injEq, Option.some.injEq, Addr.mk.injEq] at e'
              rw [e'.1.1]
              exact hg'
            simp only [Value.slice.injEq] at e
            obtain ⟨rfl, _, rfl⟩ := e
            obtain ⟨so, sn, sc, soff, pv, picks⟩ := st
            simp only at c0 c1 c2 hn
            have H6 := Lib.hid (And.intro hm (And.intro hj (And.intro hcq (And.intro hgw2 hn))))
            clear hm hj hcq hi c3 c4 hg hst hn
            by_cases hdo : so = 2
            · subst hdo
              clear c1 c2
              go_wp2_with fail
              refine (aj_forget H6.out.1 H6.out.2.1).mono ?_
              rintro e w6 ⟨⟨v, rfl⟩, J6, D6, F6, hm6, hj6⟩
              have hc6 := H2.out.2.1.below hm6.under H2.out.2.2.2
              have H7 := Lib.hid (And.intro hm6 (And.intro hj6 hc6))
              clear hm6 hj6 hc6
              go_wp2
              go_roundw
              case rel => exact ⟨r + 1, J6, D6, F6, by omega, by go_num, H7.out.1, H7.out.2.1.more (by omega) (by omega), H7.out.2.2⟩
              case measure => simp [intOf]; omega
            · have hd2 : (so == 2) = false := by rw [beq_eq_false_iff_ne]; exact hdo
              clear hdo
              have hn5 : (sn : Int) < 65536 := by have := H6.out.2.2.2.2; omega
              go_wp2
              have HX := Lib.hid (fun (W : World) (hW : W.heap[w.heap.size]? = wr.heap[w.heap.size]? ∧ W.heap[g]? = wr.heap[g]?) => And.intro (show W.cell? ⟨w.heap.size, 4, none⟩ = some (.slice (some ⟨g, o, none⟩) L.length lc) by rw [(H6.out.2.2.1.kept hW.1).cell]; rfl)
                (And.intro ((World.cell?_of_block (w := wr) (a := ⟨g, o + r * 5 + 1, none⟩) hW.2).trans c1) ((World.cell?_of_block (w := wr) (a := ⟨g, o + r * 5 + 2, none⟩) hW.2).trans c2)))
              clear c0 c1 c2 k4
              have hscl := sc.toNat_lt
              refine region_till 99 (fun W => W.heap[w.heap.size]? = wr.heap[w.heap.size]? ∧ W.heap[g]? = wr.heap[g]?) (by kernel_rfl) ⟨rfl, rfl⟩ (fun hS => ?_)
              refine take_till (i := 0) (some 98) (ptr jb) rfl rfl (by kernel_rfl) (by kernel_rfl) (by kernel_rfl) (by kernel_rfl) (by decide) (fun _ _ _ h => h) (by rfl) (fun W hW => ?_) hS ?_
              · obtain ⟨d0, d1, d2⟩ := HX.out W hW
                clear hW
                go_simp
              simp only [Act.put, List.setIfInBounds_toArray, List.set_cons_zero, List.set_cons_succ]
              refine take_till (i := 1) (some 99) (.pointer (some ⟨w.heap.size, 4, none⟩)) rfl rfl (by kernel_rfl) (by kernel_rfl) (by kernel_rfl) (by kernel_rfl) (by decide) (fun _ _ _ h => h) (by rfl) (fun W hW => ?_) hS ?_
              · obtain ⟨d0, d1, d2⟩ := HX.out W hW
                clear hW
                go_simp
              simp only [Act.put, List.setIfInBounds_toArray, List.set_cons_zero, List.set_cons_succ]
              refine take_till (i := 2) (some 100) (.slice (some ⟨g, o, none⟩) L.length lc) rfl rfl (by kernel_rfl) (by kernel_rfl) (by kernel_rfl) (by kernel_rfl) (by decide) (fun _ _ _ h => h) (by rfl) (fun W hW => ?_) hS ?_
              · obtain ⟨d0, d1, d2⟩ := HX.out W hW
                clear hW
                go_simp
              simp only [Act.put, List.setIfInBounds_toArray, List.set_cons_zero, List.set_cons_succ]
              refine take_till (i := 3) (some 101) (.int .i64 (r : Int)) rfl rfl (by kernel_rfl) (by kernel_rfl) (by kernel_rfl) (by kernel_rfl) (by decide) (fun _ _ _ h => h) (by rfl) (fun W hW => ?_) hS ?_
              · obtain ⟨d0, d1, d2⟩ := HX.out W hW
                clear hW
                go_simp
              simp only [Act.put, List.setIfInBounds_toArray, List.set_cons_zero, List.set_cons_succ]
              refine take_till (i := 4) (some 102) (.pointer (some ⟨g, o + r * 5, none⟩)) rfl rfl (by kernel_rfl) (by kernel_rfl) (by kernel_rfl) (by kernel_rfl) (by decide) (fun _ _ _ h => h) (by rfl) (fun W hW => ?_) hS ?_
              · obtain ⟨d0, d1, d2⟩ := HX.out W hW
                clear hW
                go_simp
              simp only [Act.put, List.setIfInBounds_toArray, List.set_cons_zero, List.set_cons_succ]
              refine take_till (i := 5) (some 103) (.pointer (some ⟨g, o + r * 5 + 1, none⟩)) rfl rfl (by kernel_rfl) (by kernel_rfl) (by kernel_rfl) (by kernel_rfl) (by decide) (fun _ _ _ h => h) (by rfl) (fun W hW => ?_) hS ?_
              · obtain ⟨d0, d1, d2⟩ := HX.out W hW
                clear hW
                go_simp
              simp only [Act.put, List.setIfInBounds_toArray, List.set_cons_zero, List.set_cons_succ]
              refine take_till (i := 6) (some 104) (.int .u16 (sn : Int)) rfl rfl (by kernel_rfl) (by kernel_rfl) (by kernel_rfl) (by kernel_rfl) (by decide) (fun _ _ _ h => h) (by rfl) (fun W hW => ?_) hS ?_
              · obtain ⟨d0, d1, d2⟩ := HX.out W hW
                clear hW
                go_simp
              simp only [Act.put, List.setIfInBounds_toArray, List.set_cons_zero, List.set_cons_succ]
              refine take_till (i := 7) (some 105) (.int .i64 (sn : Int)) rfl rfl (by kernel_rfl) (by kernel_rfl) (by kernel_rfl) (by kernel_rfl) (by decide) (fun _ _ _ h => h) (by rfl) (fun W hW => ?_) hS ?_
              · obtain ⟨d0, d1, d2⟩ := HX.out W hW
                clear hW
                go_simp
                exact IntWalk.i64_in _ (by omega)
              simp only [Act.put, List.setIfInBounds_toArray, List.set_cons_zero, List.set_cons_succ]
              refine take_till (i := 8) (some 106) (.int .i64 ((sn % 4000 : Nat) : Int)) rfl rfl (by kernel_rfl) (by kernel_rfl) (by kernel_rfl) (by kernel_rfl) (by decide) (fun _ _ _ h => h) (by rfl) (fun W hW => ?_) hS ?_
              · obtain ⟨d0, d1, d2⟩ := HX.out W hW
                clear hW
                go_simp
                exact Int.tmod_eq_emod_of_nonneg (by omega)
              simp only [Act.put, List.setIfInBounds_toArray, List.set_cons_zero, List.set_cons_succ]
              refine take_till (i := 9) (some 107) (.pointer (some ⟨w.heap.size, 4, none⟩)) rfl rfl (by kernel_rfl) (by kernel_rfl) (by kernel_rfl) (by kernel_rfl) (by decide) (fun _ _ _ h => h) (by rfl) (fun W hW => ?_) hS ?_
              · obtain ⟨d0, d1, d2⟩ := HX.out W hW
                clear hW
                go_simp
              simp only [Act.put, List.setIfInBounds_toArray, List.set_cons_zero, List.set_cons_succ]
              refine take_till (i := 10) (some 108) (.slice (some ⟨g, o, none⟩) L.length lc) rfl rfl (by kernel_rfl) (by kernel_rfl) (by kernel_rfl) (by kernel_rfl) (by decide) (fun _ _ _ h => h) (by rfl) (fun W hW => ?_) hS ?_
              · obtain ⟨d0, d1, d2⟩ := HX.out W hW
                clear hW
                go_simp
              simp only [Act.put, List.setIfInBounds_toArray, List.set_cons_zero, List.set_cons_succ]
              refine take_till (i := 11) (some 109) (.int .i64 (r : Int)) rfl rfl (by kernel_rfl) (by kernel_rfl) (by kernel_rfl) (by kernel_rfl) (by decide) (fun _ _ _ h => h) (by rfl) (fun W hW => ?_) hS ?_
              · obtain ⟨d0, d1, d2⟩ := HX.out W hW
                clear hW
                go_simp
              simp only [Act.put, List.setIfInBounds_toArray, List.set_cons_zero, List.set_cons_succ]
              refine take_till (i := 12) (some 110) (.pointer (some ⟨g, o + r * 5, none⟩)) rfl rfl (by kernel_rfl) (by kernel_rfl) (by kernel_rfl) (by kernel_rfl) (by decide) (fun _ _ _ h => h) (by rfl) (fun W hW => ?_) hS ?_
              · obtain ⟨d0, d1, d2⟩ := HX.out W hW
                clear hW
                go_simp
              simp only [Act.put, List.setIfInBounds_toArray, List.set_cons_zero, List.set_cons_succ]
              refine take_till (i := 13) (some 111) (.pointer (some ⟨g, o + r * 5 + 2, none⟩)) rfl rfl (by kernel_rfl) (by kernel_rfl) (by kernel_rfl) (by kernel_rfl) (by decide) (fun _ _ _ h => h) (by rfl) (fun W hW => ?_) hS ?_
              · obtain ⟨d0, d1, d2⟩ := HX.out W hW
                clear hW
                go_simp
              simp only [Act.put, List.setIfInBounds_toArray, List.set_cons_zero, List.set_cons_succ]
              refine take_till (i := 14) (some 112) (.int .u8 (sc.toNat : Int)) rfl rfl (by kernel_rfl) (by kernel_rfl) (by kernel_rfl) (by kernel_rfl) (by decide) (fun _ _ _ h => h) (by rfl) (fun W hW => ?_) hS ?_
              · obtain ⟨d0, d1, d2⟩ := HX.out W hW
                clear hW
                go_simp
              simp only [Act.put, List.setIfInBounds_toArray, List.set_cons_zero, List.set_cons_succ]
              refine next_till 15 (by kernel_rfl) rfl (fun K hK => ?_)
              go_simp
              refine (text_any (sn % 4000) sc wr.drew (by omega)).mono ?_
              rintro e w6 ⟨v6, rfl, o6, b6⟩
              have b6' : Below wr.heap.size wr w6 := (below_drewN (Below.refl wr.heap.size wr) 1).trans b6
              have hgw : g < wr.heap.size := by have := H6.out.1.under.size; have := H6.out.2.2.2.1; omega
              have hbw : w.heap.size < wr.heap.size := H6.out.2.2.1.lt
              have S6 : w6.heap[w.heap.size]? = wr.heap[w.heap.size]? ∧ w6.heap[g]? = wr.heap[g]? := ⟨b6'.block _ hbw, b6'.block _ hgw⟩
              refine hK.out _ _ (fun _ => S6) ?_
              clear hK K hS
              have hoff : ∀ q, v6.ownBlock = some q → ¬ F' q := fun q hq hF => by
                have h1 := (o6.own hq).1
                have h2 := H6.out.1.dev.fl q hF
                have h3 : wr.drew.heap.size = wr.heap.size := rfl
                omega
              have hap := aj_append (H6.out.1.later b6') H6.out.2.1 o6.bs hoff (by rw [textL_length]; omega) (by omega) (by omega)
              have HA := Lib.hid hap
              clear o6 b6 b6' hgw hbw hap hoff HX
              refine next_till 16 (by kernel_rfl) rfl (fun K hK => ?_)
              go_simp
              refine HA.out.mono ?_
              rintro e w7 ⟨⟨v7, rfl⟩, J7, D7, F7, hm7, hj7, ho7⟩
              have hc7 := H2.out.2.1.below hm7.under H2.out.2.2.2
              have S7 : w7.heap[w.heap.size]? = wr.heap[w.heap.size]? ∧ w7.heap[g]? = wr.heap[g]? :=
                ⟨(hm7.under.block _ H2.out.2.2.2).trans (H6.out.1.under.block _ H2.out.2.2.2).symm, (hm7.under.block _ H6.out.2.2.2.1).trans (H6.out.1.under.block _ H6.out.2.2.2.1).symm⟩
              have H7 := Lib.hid (And.intro hm7 (And.intro hj7 hc7))
              refine hK.out _ _ (fun _ => S7) ?_
              clear hK K hm7 hj7 ho7 hc7 HA S6 S7
              refine done_till (by kernel_rfl) ?_ _
              go_wp2
              go_roundw
              case rel => exact ⟨r + 1, J7, D7, F7, by omega, by go_num, H7.out.1, H7.out.2.1.more (by omega) (by omega), H7.out.2.2⟩
              case measure => simp [intOf]; omega
          · obtain rfl : r = L.length := by omega
            have H6 := Lib.hid (And.intro hm hj)
            clear hm hj hcq
            go_wp2
            go_loopw [13] (fun i wq => ∃ r : Nat, r ≤ 60 ∧ i = .int .i64 (r : Int) ∧ JM w2 wq b jb J' D' F') (fun i _ => 60 - (intOf i).toNat)
            case atStart => exact ⟨0, by omega, rfl, H6.out.1⟩
            case round =>
              obtain ⟨r, hr, rfl, hm⟩ := hrel
              by_cases hlt : r < 60
              · have hlt' : (r : Int) < 60 := by omega
                have hr0 : (0 : Int) ≤ (r : Int) := by omega
                obtain ⟨x, hx⟩ : ∃ x, D'.bk[r]? = some x := ⟨_, List.getElem?_eq_getElem (by rw [H6.out.2.len]; exact hlt)⟩
                have hrd := read_ok hm.dev H6.out.2.on hx
                have hst : standAt D'.bk r = x.stands := by unfold standAt; rw [hx]; rfl
                have H8 := Lib.hid (And.intro hrd (And.intro hst hm))
                have hfz : (f : Int) + (z : Int) ≤ 60 := by have := HN.out.1; omega
                clear hrd hst hm hx
                go_wp2_with fail
                refine H8.out.1.mono ?_
                rintro e w7 ⟨gb, rfl, cb, hgb, b7⟩
                have hm7 := H8.out.2.2.later b7
                have H7 := Lib.hid hm7
                clear b7
                by_cases h1 : r < f
                · have h1' : (r : Int) < (f : Int) := by omega
                  have ho : x.stands = mkB (r + 1) := by rw [← H8.out.2.1]; exact H6.out.2.marks r hlt (.inl h1)
                  have HO := Lib.hid ho
                  clear ho h1
                  have hc0 : w7.cell? ⟨gb, 0, none⟩ = some (.int .u8 ((r : Int) + 1)) := by
                    rw [cb.cell, HO.out]
                    show some (Value.int .u8 ((UInt8.ofNat (r + 1)).toNat : Int)) = _
                    rw [UInt8.toNat_ofNat']
                    congr 2
                    omega
                  have hc1 : w7.cell? ⟨gb, 1, none⟩ = some (.int .u8 0) := by
                    rw [cb.cell, HO.out]
                    rfl
                  clear cb hgb hm7
                  go_wp2
                  go_roundw
                  case rel => exact ⟨r + 1, by omega, by go_num, H7.out⟩
                  case measure => simp [intOf]; omega
                · have h1' : (f : Int) ≤ (r : Int) := by omega
                  by_cases h2 : f + z ≤ r
                  · have h2' : (f : Int) + (z : Int) ≤ (r : Int) := by omega
                    have ho : x.stands = mkB (r + 1) := by rw [← H8.out.2.1]; exact H6.out.2.marks r hlt (.inr h2)
                    have HO := Lib.hid ho
                    clear ho h1 h2
                    have hc0 : w7.cell? ⟨gb, 0, none⟩ = some (.int .u8 ((r : Int) + 1)) := by
                      rw [cb.cell, HO.out]
                      show some (Value.int .u8 ((UInt8.ofNat (r + 1)).toNat : Int)) = _
                      rw [UInt8.toNat_ofNat']
                      congr 2
                      omega
                    have hc1 : w7.cell? ⟨gb, 1, none⟩ = some (.int .u8 0) := by
                      rw [cb.cell, HO.out]
                      rfl
                    clear cb hgb hm7
                    go_wp2
                    go_roundw
                    case rel => exact ⟨r + 1, by omega, by go_num, H7.out⟩
                    case measure => simp [intOf]; omega
                  · have h2' : (r : Int) < (f : Int) + (z : Int) := by omega
                    clear h1 h2 cb hgb hm7
                    go_wp2
                    go_roundw
                    case rel => exact ⟨r + 1, by omega, by go_num, H7.out⟩
                    case measure => simp [intOf]; omega
              · obtain rfl : r = 60 := by omega
                have H8 := Lib.hid hm.under
                clear hm
                go_wp2_with fail
                refine (works_any _).mono ?_
                rintro e w9 ⟨rfl, b9⟩
                go_wp2
                go_ret
                have hz := H2.out.1.size
                exact ⟨rfl, H2.out.1.trans ((H8.out.mono hz).trans (b9.mono (Nat.le_trans hz H8.out.size)))⟩
end Go.Proofs.Ytijkkkiejdaljaa
