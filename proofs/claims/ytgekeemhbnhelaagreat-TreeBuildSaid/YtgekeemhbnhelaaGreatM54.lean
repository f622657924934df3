/- A tree that is built of pairs that rise: the walk of Build; conditions: the device is on and unarmed, and as many pages are free as it takes. -/
import Derived.Test.YtgekeemhbnhelaaGreatM53
import Derived.Test.YtgekeemhbnhelaaGreatM34
import Derived.Test.YtgekeemhbnhelaaGreatM32
import Derived.Test.YtgekeemhbnhelaaGreatM28
namespace Go.Proofs.YtgekeemhbnhelaaGreat
open Go.RowKit

/-- What Build answers and leaves. -/
def Builds (w0 : World) (tb db pb : Nat) (D : Dv) (ps : List Pg) (S0 : Nat → Prop) (ls : List Pr) (e : Ending) (w' : World) : Prop :=
  (¬ okUp ls ∧ e = .returned (.tuple #[.int .i64 0, err 1]) ∧ Below w0.heap.size w0 w') ∨
  (okUp ls ∧ ∃ (i : Nat) (BL : List Bytes) (root' : Int) (pgs' : List Nat) (S' : Nat → Prop), e = .returned (.tuple #[.int .i64 root', err 0]) ∧ Step S0 w0 w' S' ∧ (∀ j, j < i → leastFree (tdones j ps) ≠ none) ∧ BL.length = i ∧ (∀ b ∈ BL, b.length = 512) ∧ i ≤ mostP ls ∧
    (writesP 10 D ((placeT ps i).zip BL)).2 = 0 ∧ TrS w' tb db pb 10 (writesP 10 D ((placeT ps i).zip BL)).1 (tdones i ps) S' ∧ Rt (ovr (blkOf D 10) ((placeT ps i).zip BL)) ps.length root' ls pgs' ∧ pgs'.Perm (placeT ps i))

set_option maxRecDepth 100000 in
set_option maxHeartbeats 8000000 in
theorem tbuild_any {w : World} {tb db pb n : Nat} {D : Dv} {ps : List Pg} {S : Nat → Prop} {lv : Value} {ls : List Pr} (h : TrS w tb db pb 10 D ps S) (ho : D.on = true) (hle : D.left = -1) (hu : Upto D n) (hn : n ≤ 4000000000) (hl : Rd kdPr w S lv ls) (hfew : ls.length ≤ 1000) (hfree : okUp ls → mostP ls < freeP ps) (hmost : okUp ls → mostP ls ≤ 4000) :
    Calls Tryz.prog 27 #[ptr tb, lv] w (Builds w tb db pb D ps S ls) := by
  have hS : ∀ q, S q → q < w.heap.size := h.lt
  obtain ⟨la, lc, rfl, _⟩ := hl.shape
  obtain ⟨ln, hln⟩ : ∃ ln, ln = ls.length := ⟨_, rfl⟩
  obtain ⟨inf, z, hi, hz, hsz, hzs, hby⟩ := ent_ty.info
  obtain ⟨w1, hmk, o1, g1⟩ := run_make_full (P := Tryz.prog) w 0 83 93 inf z 3 ent_ty.slice hi hz hsz .i64 .i64 ln (Nat.le_trans (Nat.mul_le_mul hby (show ln ≤ 1000000 by omega)) (by decide)) (by unfold maxLen; omega) (Nat.zero_le _)
  have hzl : z.cells.toList.length = kdEn.sz := by simpa using hzs
  have hfl : (madeCells z.cells (ln * 3)).toList = (List.replicate ln z.cells.toList).flatten := by
    have := made_flat z.cells (by rw [hzs]; exact kdEn.pos) ln
    rwa [hzs] at this
  have M0 : Md kdEn 93 w1 (fun q => S q ∨ q = w.heap.size) (.slice (some ⟨w.heap.size, 0, none⟩) ln ln) ln z.cells.toList [] :=
    Md.start (by rw [← hfl]; exact o1) hzl (fun q hq => .inr (by simpa [Value.ownBlock] using hq.symm))
  have hb1 : Below w.heap.size w w1 := (Below.refl _ _).grown g1 (Nat.le_refl _) (fun _ h => by cases h)
  rw [← hln] at hl hfew ⊢
  have HB := Lib.hid (And.intro hb1 (And.intro hl (And.intro M0 (And.intro hln (And.intro hS hzl)))))
  have HC := Lib.hid (And.intro h (And.intro ho (And.intro hle (And.intro hu (And.intro hn (And.intro hfree hmost))))))
  clear h ho hle hu hn hfree hmost hl hS g1 o1 M0 hi hz hsz hzs hby hfl hzl hln hb1
  go_enter Tryz.func27, Tryz.ntmps27
  go_wp2
  go_loopw [17] (fun i wr => ∃ j : Nat, j ≤ ln ∧ i = .int .i64 (j : Int) ∧ okUp (ls.take j) ∧ Md kdEn 93 wr (fun q => S q ∨ q = w.heap.size) (.slice (some ⟨w.heap.size, 0, none⟩) ln ln) ln z.cells.toList ((ls.take j).map prE) ∧ Below w.heap.size w wr) (fun i _ => ln - (intOf i).toNat)
  case atStart => exact ⟨0, Nat.zero_le _, rfl, by rw [List.take_zero]; exact okUp_nil, HB.out.2.2.1, HB.out.1⟩
  case round =>
    obtain ⟨j, hj, rfl, hok, hM, hbw⟩ := hrel
    obtain ⟨-, hl, -, hln, hS, hzl⟩ := HB.out
    by_cases hlt : j < ln
    · obtain ⟨p, hp⟩ : ∃ p, ls[j]? = some p := ⟨_, List.getElem?_eq_getElem (by omega)⟩
      have h' := hl.step (S' := fun q => S q ∨ q = w.heap.size) ⟨Only.of_below hbw S, fun q hq => hq.elim .inl fun e => .inr (by omega)⟩
      obtain ⟨g, o, cap, ka, kc, va, vc, e0, hg, k0, k1, bk, bv⟩ := h'.par hp
      rw [← hln] at e0
      simp only [Value.slice.injEq] at e0
      obtain ⟨rfl, -, rfl⟩ := e0
      have hil : (j : Int) < (ln : Int) := by omega
      have hr0 : (0 : Int) ≤ (j : Int) := by omega
      obtain ⟨pkn, hpk⟩ : ∃ x, x = p.1.length := ⟨_, rfl⟩
      obtain ⟨pvn, hpv⟩ : ∃ x, x = p.2.length := ⟨_, rfl⟩
      rw [← hpk] at k0 bk
      rw [← hpv] at k1 bv
      have hbb : Below wr.heap.size wr (wr.alloc (.cells #[.slice ka pkn kc, .slice va pvn vc] 57)) := (Below.refl _ _).alloc (Nat.le_refl _) _
      have CB := Cel.new wr #[.slice ka pkn kc, .slice va pvn vc] 57
      have HP := Lib.hid (And.intro hp (And.intro hpk (And.intro hpv (And.intro hok (And.intro hM (And.intro hbw (And.intro hbb (And.intro CB (And.intro bk (And.intro bv h'))))))))))
      clear hl hln hS hzl hok hM hbw hp hpk hpv h' hbb CB bk bv
      go_upto_region 7 with fail
      obtain ⟨bx, hbx⟩ : ∃ bx, bx = wr.heap.size := ⟨_, rfl⟩
      rw [← hbx]
      have HX := Lib.hid hbx
      clear hbx
      generalize wr.alloc (.cells #[.slice ka pkn kc, .slice va pvn vc] 57) = wb at *
      go_cut [47] from 18 to 56 (fun t47 wx => ∃ b, t47 = .bool b ∧ (b = true → ¬ okUp ls) ∧ (b = false → PrOk p ∧ okUp (ls.take (j + 1))) ∧ Below wb.heap.size wb wx)
      case first => as_aux_lemma =>
        obtain ⟨hp, hpk, hpv, hok, hM, hbw, hbb, CB, bk, bv, h'⟩ := HP.out
        rw [← HX.out] at CB
        obtain ⟨-, -, -, hln, -, -⟩ := HB.out
        have c0 := CB.cell 0
        have c1 := CB.cell 1
        have bk' := (bk.step (Step.of_below hbb _)).1
        have bv' := (bv.step (Step.of_below hbb _)).1
        have K1 := fun m => mayKey_any (wb.drewN m) (bk'.drewN m)
        have V1 := fun m => mayValue_any (wb.drewN m) (bv'.drewN m)
        have hno : (mayK p.1 = false ∨ mayV p.2 = false) → ¬ okUp ls := fun hm hu => by
          have h1 := prOk_may.1 (hu.1 p (List.mem_of_getElem? hp))
          rcases hm with hm | hm
          · rw [h1.1] at hm; cases hm
          · rw [h1.2] at hm; cases hm
        rcases hk : mayK p.1 with _ | _
        · simp only [hk] at K1
          have K2 := Lib.hid K1
          have HN := Lib.hid (hno (.inl hk))
          clear hp hpk hpv hok hM hbw hbb CB bk bv h' hln bk' bv' K1 V1 hno hk c1
          go_wp2_with fail
          go_quiet ((go_at_call 43; exact quiet_left (K2.out _)))
          go_wp2_with fail
          go_meet
          case rel => exact ⟨true, rfl, fun _ => HN.out, (fun h => by cases h), below_drewN (Below.refl _ _) _⟩
        rcases hv : mayV p.2 with _ | _
        · simp only [hk] at K1
          simp only [hv] at V1
          have K2 := Lib.hid K1
          have V2 := Lib.hid V1
          have HN := Lib.hid (hno (.inr hv))
          clear hp hpk hpv hok hM hbw hbb CB bk bv h' hln bk' bv' K1 V1 hno hk hv
          go_wp2_with fail
          go_quiet (first | (go_at_call 43; exact quiet_left (K2.out _)) | (go_at_call 55; exact quiet_left (V2.out _)))
          go_wp2_with fail
          go_meet
          case rel => exact ⟨true, rfl, fun _ => HN.out, (fun h => by cases h), below_drewN (Below.refl _ _) _⟩
        simp only [hk] at K1
        simp only [hv] at V1
        have K2 := Lib.hid K1
        have V2 := Lib.hid V1
        have hpo : PrOk p := prOk_may.2 ⟨hk, hv⟩
        by_cases h0 : j = 0
        · have hsx := okUp_step hok hp hpo (fun q hq => by omega)
          have hg0 : decide (0 < j) = false := decide_eq_false (by omega)
          have HN := Lib.hid (And.intro hpo hsx)
          clear hp hpk hpv hok hM hbw hbb CB bk bv h' hln bk' bv' K1 V1 hno hk hv hpo hsx h0
          go_wp2_with fail
          go_quiet (first | (go_at_call 43; exact quiet_left (K2.out _)) | (go_at_call 55; exact quiet_left (V2.out _)))
          go_wp2_with fail
          go_meet
          case rel => exact ⟨false, rfl, (fun h => by cases h), fun _ => HN.out, below_drewN (Below.refl _ _) _⟩
        · obtain ⟨m, rfl⟩ : ∃ m, j = m + 1 := ⟨j - 1, by omega⟩
          obtain ⟨q, hq⟩ : ∃ q, ls[m]? = some q := ⟨_, List.getElem?_eq_getElem (by omega)⟩
          obtain ⟨g', o', cap', qa, qc, ua, uc, e0', hg', l0, l1, bq, bu⟩ := h'.par hq
          rw [← hln] at e0'
          simp only [Value.slice.injEq, Option.some.injEq, Addr.mk.injEq] at e0'
          obtain ⟨⟨rfl, rfl, -⟩, -, rfl⟩ := e0'
          have l0' := (hbb.cell (p := ⟨g, o + m * 2, none⟩) hg').trans l0
          have bq' := (bq.step (Step.of_below hbb _)).1
          have O1 := fun x => order_cmp (wb.drewN x) (bq'.drewN x) (bk'.drewN x)
          obtain ⟨qkn, hqk⟩ : ∃ x, x = q.1.length := ⟨_, rfl⟩
          rw [← hqk] at l0' O1
          have hg0 : (0 : Int) < ((m + 1 : Nat) : Int) := by omega
          have hj1 : ((m + 1 : Nat) : Int) - 1 = (m : Int) := by omega
          have hj2 : (0 : Int) ≤ (m : Int) := by omega
          have hj3 : (m : Int) < (ln : Int) := by omega
          have hyes : cmp q.1 p.1 < 0 → PrOk p ∧ okUp (ls.take (m + 1 + 1)) := fun hc => ⟨hpo, okUp_step hok hp hpo (fun q' _ hq' => by
            have e : q' = q := by
              have : ls[m]? = some q' := hq'
              rw [hq] at this
              exact (Option.some.inj this).symm
            rw [e]; exact hc)⟩
          have hnot : ¬ cmp q.1 p.1 < 0 → ¬ okUp ls := fun hc hu => hc (okUp_last hu hp (show ls[m + 1 - 1]? = some q from hq) (by omega))
          have HN := Lib.hid (And.intro hyes hnot)
          generalize cmp q.1 p.1 = y at *
          have O2 := Lib.hid O1
          by_cases hc : y < 0
          · have hy : decide ((0 : Int) ≤ y) = false := decide_eq_false (by omega)
            have HC2 := Lib.hid hc
            clear hp hpk hpv hok hM hbw hbb CB bk bv h' hln bk' bv' K1 V1 hno hk hv hpo h0 hq l0 l1 bq bu bq' O1 hqk hyes hnot hc hg'
            go_wp2_with fail
            go_quiet (first | (go_at_call 43; exact quiet_left (K2.out _)) | (go_at_call 55; exact quiet_left (V2.out _)) | (go_at_call 56; exact quiet_left (O2.out _)))
            go_wp2_with fail
            go_meet
            case rel => exact ⟨false, rfl, (fun h => by cases h), fun _ => HN.out.1 HC2.out, below_drewN (Below.refl _ _) _⟩
          · have hy : decide ((0 : Int) ≤ y) = true := decide_eq_true (by omega)
            have HC2 := Lib.hid hc
            clear hp hpk hpv hok hM hbw hbb CB bk bv h' hln bk' bv' K1 V1 hno hk hv hpo h0 hq l0 l1 bq bu bq' O1 hqk hyes hnot hc hg'
            go_wp2_with fail
            go_quiet (first | (go_at_call 43; exact quiet_left (K2.out _)) | (go_at_call 55; exact quiet_left (V2.out _)) | (go_at_call 56; exact quiet_left (O2.out _)))
            go_wp2_with fail
            go_meet
            case rel => exact ⟨true, rfl, fun _ => HN.out.2 HC2.out, (fun h => by cases h), below_drewN (Below.refl _ _) _⟩
      case rest =>
        obtain ⟨b, rfl, hbt, hbf, hbx⟩ := hcut
        obtain ⟨hp, hpk, hpv, hok, hM, hbw, hbb, CB, bk, bv, h'⟩ := HP.out
        rw [← HX.out] at CB
        have hbx' := hbb.trans (hbx.mono hbb.size)
        rcases b with _ | _
        · obtain ⟨-, -, -, hln, -, hzl⟩ := HB.out
          obtain ⟨hpo, hsx⟩ := hbf rfl
          have hlen : ((ls.take j).map prE).length = j := by rw [List.length_map, List.length_take]; omega
          obtain ⟨g2, cp, e2, _, hgw, _, _⟩ := hM.shape (by omega)
          simp only [Value.slice.injEq, Option.some.injEq, Addr.mk.injEq] at e2
          obtain ⟨⟨rfl, _⟩, _, _⟩ := e2
          have st : Step (fun q => S q ∨ q = w.heap.size) wr wc (fun q => S q ∨ q = w.heap.size) := Step.of_below hbx' _
          have hM2 := hM.keep (fun q hq => hbx'.block q (by
            have h1 : w.heap.size = q := by simpa [Value.ownBlock] using hq
            omega)) st (fun _ h => h)
          have hN := hM2.next (by rw [hlen]; exact hlt)
          have hP := hM2.put (by rw [hlen]; exact hlt) (⟨⟨ka, p.1.length, kc⟩, ⟨va, p.2.length, vc⟩, prE p⟩ : ET) ⟨by show Bsf wc _ (.slice ka p.1.length kc) p.1; rw [← hpk]; exact bk.step st, by show Bsf wc _ (.slice va p.2.length vc) p.2; rw [← hpv]; exact bv.step st⟩
          rw [hlen] at hN hP
          obtain ⟨u0, hu0⟩ : ∃ u, z.cells.toList[0]? = some u := ⟨_, List.getElem?_eq_getElem (by rw [hzl]; decide)⟩
          obtain ⟨u1, hu1⟩ : ∃ u, z.cells.toList[1]? = some u := ⟨_, List.getElem?_eq_getElem (by rw [hzl]; decide)⟩
          obtain ⟨u2, hu2⟩ : ∃ u, z.cells.toList[2]? = some u := ⟨_, List.getElem?_eq_getElem (by rw [hzl]; decide)⟩
          have n0 : wc.cell? ⟨w.heap.size, j * 3, none⟩ = some u0 := hN.1 0 u0 hu0
          have n1 : wc.cell? ⟨w.heap.size, j * 3 + 1, none⟩ = some u1 := hN.1 1 u1 hu1
          have n2 : wc.cell? ⟨w.heap.size, j * 3 + 2, none⟩ = some u2 := hN.1 2 u2 hu2
          have f0 := hN.2 (j * 3)
          have f1 := hN.2 (j * 3 + 1)
          have f2 := hN.2 (j * 3 + 2)
          have c0 := (CB.below hbx CB.lt).cell 0
          have c1 := (CB.below hbx CB.lt).cell 1
          have hs : (ls.take (j + 1)).map prE = (ls.take j).map prE ++ [prE p] := by
            rw [take_snoc hp, List.map_append]
            rfl
          have HR := Lib.hid (And.intro hP.1 (And.intro (hbw.trans (hbx'.mono hbw.size)) (And.intro hs (And.intro hsx (And.intro hpk hpv)))))
          clear hp hpk hpv hok hM hbw hbb CB bk bv h' hbx' hbt hbf hbx hln hzl hpo hsx hlen hgw st hM2 hN hP hu0 hu1 hu2 hs
          go_wp2_with fail
          go_roundw
          case rel =>
            obtain ⟨r1, r2, r3, r4, r5, r6⟩ := HR.out
            refine ⟨j + 1, by omega, by go_num, r4, ?_, ?_⟩
            · rw [r3]
              rw [r5, r6]
              exact r1
            · exact ((r2.setCell (Nat.le_refl _) _).setCell (Nat.le_refl _) _).setCell (Nat.le_refl _) _
          case measure => simp [intOf]; omega
        · have hno := hbt rfl
          have HR := Lib.hid (And.intro hno (hbw.trans (hbx'.mono hbw.size)))
          clear hp hpk hpv hok hM hbw hbb CB bk bv h' hbx' hbt hbf hbx hno
          go_wp2
          go_ret2
          exact .inl ⟨HR.out.1, rfl, HR.out.2⟩
    · obtain rfl : j = ln := by omega
      have hil : ¬ (j : Int) < (j : Int) := by omega
      rw [List.take_of_length_le (by omega)] at hok hM
      have hro := Md.done hM (by rw [List.length_map]; exact hln.symm)
      have hR : Rd kdEn wr S (.slice (some ⟨w.heap.size, 0, none⟩) j j) (ls.map prE) := Ro.rd hro (fun q h => .inl h) (fun q hq h => by
        have h1 : w.heap.size = q := by simpa [Value.ownBlock] using hq
        have := hS q h
        omega)
      have NW := nowhere_any wr
      have HP := Lib.hid (And.intro hR (And.intro hok (And.intro hbw (And.intro hln hS))))
      clear hl hln hS hzl hok hM hbw hro hR
      go_wp2_with fail
      refine NW.mono ?_
      rintro e w2 ⟨rfl, hb2⟩
      clear NW
      obtain ⟨h, ho, hle, hu, hn, hfree, hmost⟩ := HC.out
      replace hfree := hfree HP.out.2.1
      replace hmost := hmost HP.out.2.1
      obtain ⟨hR, hok, hbw, hln, hS⟩ := HP.out
      obtain ⟨wb, hwb⟩ : ∃ wb, wb = w2.heap.size := ⟨_, rfl⟩
      obtain ⟨W3, hW3⟩ : ∃ W3, W3 = w2.alloc (.cells #[ptr tb, .int .i64 (-1), .int .i64 0, .slice none 0 0, .slice none 0 0, .slice none 0 0, .slice none 0 0, .slice none 0 0, .slice none 0 0] 112) := ⟨_, rfl⟩
      have hb23 : Below w2.heap.size w2 W3 := by rw [hW3]; exact (Below.refl _ _).alloc (Nat.le_refl _) _
      have CW : Cel W3 wb [ptr tb, .int .i64 (-1), .int .i64 0, .slice none 0 0, .slice none 0 0, .slice none 0 0, .slice none 0 0, .slice none 0 0, .slice none 0 0] 112 := by
        rw [hW3, hwb]
        exact Cel.new w2 _ _
      have hz2 := hb2.size
      have hzw := hbw.size
      have hbr3 := hb2.trans (hb23.mono hb2.size)
      have hb03 := hbw.trans (hbr3.mono hbw.size)
      have st03 : Step S w W3 (fun q => S q ∨ q = wb) := ⟨Only.of_below hb03 S, fun q hq => hq.elim .inl fun e => .inr (by omega)⟩
      have str3 : Step S wr W3 (fun q => S q ∨ q = wb) := ⟨Only.of_below hbr3 S, fun q hq => hq.elim .inl fun e => .inr (by omega)⟩
      have hS3 : ∀ q, (S q ∨ q = wb) → q < W3.heap.size := fun q hq => hq.elim (fun hq => Nat.lt_of_lt_of_le (hS q hq) hb03.size) (fun e => e ▸ CW.lt)
      obtain ⟨F, G, hA⟩ := h
      have hN := hA.pgs.few
      have hN0 := hA.pgs.pos
      obtain ⟨q1, q2, q3⟩ := build_leaf (B := ovr (blkOf D 10) ((placeT ps 0).zip [])) hN hN0 hok
      have FL : Calls Tryz.prog 60 #[.int .i64 0, .slice (some ⟨w.heap.size, 0, none⟩) j j] W3 _ := filled_any (lvl := 0) (hR.step str3) q3 hS3 (by rw [List.length_map]; omega)
      have HQ := Lib.hid (And.intro q1 (And.intro q2 (And.intro CW (And.intro st03 (And.intro hb03 (And.intro hN hN0))))))
      have HW := Lib.hid (And.intro hwb (And.intro hW3 (And.intro hA hz2)))
      rw [hW3] at FL
      clear ho hle hu hn hfree hmost hR hok hbw hln hS hb2 hb23 CW hz2 hzw hbr3 hb03 st03 str3 hS3 hA hN hN0 q1 q2 q3 hwb hW3
      go_wp2_with fail
      refine FL.mono ?_
      rintro e w4 ⟨v, rfl, hv, hb4⟩
      clear FL
      obtain ⟨hwb, hW3, hA, hz0⟩ := HW.out
      obtain ⟨q1, q2, CW, st03, hb03, hN, hN0⟩ := HQ.out
      obtain ⟨h, ho, hle, hu, hn, hfree, hmost⟩ := HC.out
      replace hfree := hfree HP.out.2.1
      replace hmost := hmost HP.out.2.1
      obtain ⟨hR, hok, hbw, hln, hS⟩ := HP.out
      rw [← hW3] at hb4
      have hb04 := hb03.trans (hb4.mono hb03.size)
      have hlt := hA.tree.lt
      have hz2 : w.heap.size ≤ wb := by
        have h1 := hbw.size
        omega
      have hst := StAt.begin (top := ⟨-1, 0, [], []⟩) (hA.below hb04) (fun hq => by have := hA.lt _ hq; omega) (CW.below hb4 CW.lt) (by omega) (Rd.nil _ _ _) (Bsf.nil _ _)
      have hmL : (shareL 0 (fillL 0 (ls.map prE))).length ≤ 4000 := by
        have := mostN_le (shareL 0 (fillL 0 (ls.map prE))).length
        omega
      have RS := rise_any (P := []) (i1 := 0) (BL := []) (X := []) (lvl := 0) (ps := ps) hst hv ho (.inl rfl) (fun _ _ h => by cases h) (fun _ h => absurd h (Nat.not_lt_zero _)) rfl q1 (fun _ h => by cases h) hok.2 hok.1 (by omega) (by omega)
      obtain ⟨va, vc, rfl, _⟩ := hv.shape
      obtain ⟨vn, hvn⟩ : ∃ vn, vn = ((shareL 0 (fillL 0 (ls.map prE))).map (mkN 0)).length := ⟨_, rfl⟩
      rw [← hvn] at RS ⊢
      have HV := Lib.hid (And.intro (st03.bel hb4) (And.intro q2 hN))
      rw [hwb] at RS
      clear hwb hW3 hA hz0 q1 q2 CW st03 hb03 hN hN0 h ho hle hu hn hfree hmost hR hok hbw hln hS hb4 hb04 hlt hz2 hst hmL hv hvn
      go_wp2_with fail
      refine RS.mono ?_
      rintro e w5 ⟨i2, BL', S5, tv5, bv5, h5, st5, in5, hf5, hB5, h512', hi5, (⟨root', pgs', rfl, hrt', hperm'⟩ | ⟨hlt5, hnone, rfl⟩)⟩
      · clear RS
        rw [Nat.zero_add] at h5 hf5 hrt'
        rw [List.nil_append] at h5 hrt'
        obtain ⟨h, ho, hle, hu, hn, hfree, hmost⟩ := HC.out
        replace hfree := hfree HP.out.2.1
        replace hmost := hmost HP.out.2.1
        have hroom := h.room
        have hN := HV.out.2.2
        have hq2 := HV.out.2.1
        have hall : ∀ p ∈ (placeT ps i2).zip BL', 10 + p.1 < D.bk.length ∧ p.2.length = 512 := fun p hp => by
          obtain ⟨a, b⟩ := p
          obtain ⟨h1, h2⟩ := List.of_mem_zip hp
          have := placeT_lt hf5 h1
          exact ⟨by show 10 + a < _; omega, h512' b h2⟩
        obtain ⟨hw0, -, -⟩ := writes_well (fr := 10) _ ho hle hall
        have E := end_any' (c := 0) (root := root') (n := n) ⟨_, _, _, _, _, _, _, h5⟩ (by rw [placeT_length]; exact hB5) h512' (fun t ht => by have := placeT_lt hf5 ht; omega) (by omega) hu (by show n + (placeT ps i2).length < _; rw [placeT_length]; omega) (Nat.zero_le _)
        rw [(endE_zero 10 D _ _ _).1, (endE_zero 10 D _ _ _).2, hw0, endL_on] at E
        have h0 := HV.out.1
        rw [HW.out.1] at h0
        have H3 := Lib.hid (And.intro (h0.trans st5) (And.intro hf5 (And.intro hB5 (And.intro h512' (And.intro (show i2 ≤ mostP ls by omega) (And.intro hw0 (And.intro hrt' hperm')))))))
        clear h0 h5 st5 in5 hf5 hB5 h512' hi5 hrt' hperm' hw0 hall hroom hN hq2 h ho hle hu hn hfree hmost
        go_wp2_with fail
        refine E.mono ?_
        rintro e w6 ⟨he, S6, h6, st6⟩
        rw [if_pos rfl] at he
        subst he
        clear E
        have H4 := Lib.hid (And.intro h6 st6)
        clear h6 st6
        go_wp2
        go_ret2
        obtain ⟨st5, hf5, hB5, h512', hi5, hw0, hrt', hperm'⟩ := H3.out
        exact .inr ⟨HP.out.2.1, i2, BL', root', pgs', S6, rfl, st5.trans H4.out.2, hf5, hB5, h512', hi5, hw0, H4.out.1, hrt', hperm'⟩
      · exfalso
        obtain ⟨h, ho, hle, hu, hn, hfree, hmost⟩ := HC.out
        replace hfree := hfree HP.out.2.1
        replace hmost := hmost HP.out.2.1
        rw [Nat.zero_add] at hf5 hnone
        have h1 := free_none hnone
        have h2 := free_tdones hf5
        have h3 := HV.out.2.1
        omega
end Go.Proofs.YtgekeemhbnhelaaGreat
