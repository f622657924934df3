/- The walk of TreePlays: it returns true and writes nothing that was there; no condition. -/
import Derived.Test.YtgekeemhbnhelaaGreatM43
import Derived.Deep.CutBlock
namespace Go.Proofs.YtgekeemhbnhelaaGreat
open Go.RowKit

theorem stepP_len (prs : List Pr) (s : Sp) : (stepP prs s).length ≤ prs.length + 1 := by
  have h2 : ∀ l : List Pr, (putP l s.key s.val).length ≤ l.length + 1 := by
    intro l
    induction l with
    | nil => exact Nat.le_refl _
    | cons a t ih =>
      unfold putP
      split
      · rw [List.length_cons, List.length_cons]; omega
      · split <;> simp
  unfold stepP
  split
  · split
    · have : (cutP prs s.key).length ≤ prs.length := List.length_filter_le _ _
      omega
    · exact h2 prs
  · omega
theorem few_levels {lvl : Nat} (h : 2 ^ lvl ≤ 800 + 1) : 2 * lvl + 3 ≤ 21 := by
  rcases Nat.lt_or_ge lvl 10 with h1 | h1
  · omega
  · have := Nat.pow_le_pow_right (show 0 < 2 by decide) h1
    omega

section
variable {w0 w : World} {xb tb db pb N n K : Nat} {D : Dv} {ps : List Pg} {root : Int} {prs : List Pr} {pgs : List Nat} {S : Nat → Prop} {av kv vv : Value}
theorem does_any (h : Dx w0 w xb tb db pb N n D ps root prs pgs S) (hav : Rd kdPr w S av prs) (s : Sp) (hkv : Bsf w S kv s.key) (hvv : Bsf w S vv s.val) (hK : ∀ lvl, 2 ^ lvl ≤ N + 1 → 2 * lvl + 3 ≤ K) (hfree : K ≤ freeP ps) (hn : n ≤ 4000000000) (hfew : prs.length ≤ 900000) :
    Calls Tryz.prog 12 #[ptr xb, .int .i64 root, av, .agg #[.bool s.cut, kv, vv, .bool s.settle]] w (Doer w0 w xb tb db pb N n K D ps S (stepP prs s)) := by
  obtain ⟨c, k, v, b⟩ := s
  rcases c with _ | _
  · exact does_put h hav hkv hvv hK hfree hn hfew
  · exact does_cut h hav hkv hvv hK hfree hn hfew
/-- Get, whatever the key. -/
theorem dx_gets (h : Dx w0 w xb tb db pb N n D ps root prs pgs S) {key : Bytes} (hkv : Bsf w S kv key) :
    Calls Tryz.prog 13 #[ptr tb, .int .i64 root, kv] w fun e w' => ∃ (a : Option Addr) (k c : Nat) (b : Bool) (x : Int), e = .returned (.tuple #[.slice a k c, .bool b, err x]) ∧ Below w.heap.size w w' ∧ (mayK key = true → b = (lookP prs key).isSome ∧ x = 0 ∧ Bsf w' S (.slice a k c) ((lookP prs key).getD [])) := by
  by_cases hm : mayK key = true
  · refine (dx_get h hkv hm).mono ?_
    rintro e w' ⟨v, rfl, hv, hb⟩
    obtain ⟨a, c, rfl, _⟩ := hv.1.shape
    exact ⟨a, _, c, _, 0, rfl, hb, fun _ => ⟨rfl, rfl, hv⟩⟩
  · have hmf : mayK key = false := by simpa using hm
    refine (get_arg w h.tr hkv.1 (by rw [hmf]; simp)).mono ?_
    rintro e w' ⟨rfl, rfl⟩
    exact ⟨none, 0, 0, false, 1, rfl, Below.refl _ _, fun h => by rw [hmf] at h; cases h⟩
end

theorem free_fresh (n : Nat) : freeP (freshP n) = n := by
  unfold freeP freshP
  simp [List.countP_replicate, pnum]
/-- Between two rounds. -/
def PlayR (w1 : World) (xb tb db pb : Nat) (r : Nat) (wr : World) (rv av : Value) : Prop := ∃ (root : Int) (prs : List Pr) (D : Dv) (ps : List Pg) (pgs : List Nat) (S : Nat → Prop) (n : Nat),
  rv = .int .i64 root ∧ Dx w1 wr xb tb db pb 800 n D ps root prs pgs S ∧ Rd kdPr wr S av prs ∧ prs.length ≤ r ∧ 200 ≤ freeP ps ∧ n ≤ 21 * r

set_option maxRecDepth 100000 in
set_option maxHeartbeats 16000000 in
theorem treePlays_any {lv fv tv : Value} {ls : List Sp} {f t : Bytes} (w : World) (hl : Rd kdSp w (fun _ => False) lv ls) (hf : Bs w fv f) (ht : Bs w tv t) :
    Calls Tryz.prog 3 #[lv, fv, tv] w (Yes w) := by
  obtain ⟨la, lc, rfl, _⟩ := hl.shape
  obtain ⟨fa, fc, rfl, _⟩ := hf.shape
  obtain ⟨ta, tc, rfl, _⟩ := ht.shape
  obtain ⟨ln, hln⟩ : ∃ ln, ln = ls.length := ⟨_, rfl⟩
  obtain ⟨fn, hfn⟩ : ∃ fn, fn = f.length := ⟨_, rfl⟩
  obtain ⟨tn, htn⟩ : ∃ tn, tn = t.length := ⟨_, rfl⟩
  have HV := heavy_any w hl
  rw [← hln] at hl HV ⊢
  rw [← hfn] at hf ⊢
  rw [← htn] at ht ⊢
  have HH := Lib.hid (And.intro hl (And.intro hf (And.intro ht hln)))
  clear hl hf ht hln hfn htn
  go_enter Tryz.func3, Tryz.ntmps3
  go_wp2_with fail
  refine HV.mono ?_
  rintro e w1 ⟨hb, rfl, hb1, hfew⟩
  clear HV
  have WK := tworks_any w1
  have H1 := Lib.hid hb1
  clear hb1
  have anchor : Calls Tryz.prog 9 #[] w1 fun e w' => e = .returned (.bool true) ∧ Below w.heap.size w w' := WK.mono fun e w' h => ⟨h.1, H1.out.trans (h.2.mono H1.out.size)⟩
  clear WK
  rcases hb with _ | _
  · replace hfew := hfew rfl
    by_cases h1 : (200 : Int) < (fn : Int)
    · clear hfew
      go_wp2_with fail
      refine anchor.mono ?_
      rintro e w2 ⟨rfl, hb⟩
      clear anchor
      go_wp2
      go_ret
      exact ⟨rfl, hb⟩
    by_cases h2 : (200 : Int) < (tn : Int)
    · clear hfew
      go_wp2_with fail
      refine anchor.mono ?_
      rintro e w2 ⟨rfl, hb⟩
      clear anchor
      go_wp2
      go_ret
      exact ⟨rfl, hb⟩
    clear anchor
    have DK := desk_any 800 (by decide) (by decide) w1
    have HF := Lib.hid hfew
    go_wp2_with fail
    refine DK.mono ?_
    rintro e w2 ⟨xb, tb, rfl, hk⟩
    clear DK
    obtain ⟨db, pb, D, pgs, S, hd⟩ := hk.dx
    have HD := Lib.hid hd
    clear hk hd
    go_wp2
    go_loopw [8, 9, 10] (fun rv av i wr => ∃ r : Nat, r ≤ ln ∧ i = .int .i64 (r : Int) ∧ PlayR w1 xb tb db pb r wr rv av) (fun _ _ i _ => ln - (intOf i).toNat)
    case atStart =>
      refine ⟨0, Nat.zero_le _, rfl, -1, [], D, _, pgs, S, 0, rfl, HD.out, Rd.nil _ _ _, Nat.le_refl _, ?_, Nat.zero_le _⟩
      rw [free_fresh]
      decide
    case round =>
      obtain ⟨r, hr, rfl, root, prs, D, ps, pgs, S, n, rfl, hd, hav, hpl, hfr, hn⟩ := hrel
      obtain ⟨hl, hf, ht, hln⟩ := HH.out
      have hfew := HF.out
      by_cases hlt : r < ln
      · obtain ⟨s, hs⟩ : ∃ s, ls[r]? = some s := ⟨_, List.getElem?_eq_getElem (by omega)⟩
        obtain ⟨g, o, cap, ka, kc, va, vc, e0, hg, k0, k1, k2, k3, bk, bv⟩ := (hl.step (Step.of_below H1.out _)).stp hs
        rw [← hln] at e0
        simp only [Value.slice.injEq] at e0
        obtain ⟨rfl, -, rfl⟩ := e0
        obtain ⟨kn, hkn⟩ : ∃ kn, kn = s.key.length := ⟨_, rfl⟩
        obtain ⟨vn, hvn⟩ : ∃ vn, vn = s.val.length := ⟨_, rfl⟩
        rw [← hkn] at k1 bk
        rw [← hvn] at k2 bv
        obtain ⟨sv, hsv⟩ : ∃ sv, sv = s.settle := ⟨_, rfl⟩
        rw [← hsv] at k3
        obtain ⟨aa, ac, rfl, _⟩ := hav.shape
        have hil : (r : Int) < (ln : Int) := by omega
        have hr0 : (0 : Int) ≤ (r : Int) := by omega
        have hrl : ln ≤ 300 := hfew
        have m0 := (hd.bw.cell (p := ⟨g, o + r * 4, none⟩) hg).trans k0
        have m1 := (hd.bw.cell (p := ⟨g, o + r * 4 + 1, none⟩) hg).trans k1
        have m2 := (hd.bw.cell (p := ⟨g, o + r * 4 + 2, none⟩) hg).trans k2
        have m3 := (hd.bw.cell (p := ⟨g, o + r * 4 + 3, none⟩) hg).trans k3
        have hbb : Below wr.heap.size wr (wr.alloc (.cells #[.bool s.cut, .slice ka kn kc, .slice va vn vc, .bool sv] 30)) := (Below.refl _ _).alloc (Nat.le_refl _) _
        have CB := Cel.new wr #[.bool s.cut, .slice ka kn kc, .slice va vn vc, .bool sv] 30
        have hnS : ¬ S wr.heap.size := fun hq => Nat.lt_irrefl _ (hd.tr.lt _ hq)
        have HK := Lib.hid (And.intro bk.1 bv.1)
        have HP := Lib.hid (And.intro hpl (And.intro hfr (And.intro hn (And.intro hnS hfew))))
        have HA := Lib.hid (And.intro (hd.later hbb) (And.intro (hav.step (Step.of_below hbb S)) CB))
        have HNN := Lib.hid (And.intro hkn (And.intro hvn hsv))
        clear hsv hl hf ht hln hs hg k0 k1 k2 k3 bk bv hkn hvn hav hfew hbb CB hnS hd hpl hfr hn
        go_upto_region 12 with fail
        generalize wr.alloc (.cells #[.bool s.cut, .slice ka kn kc, .slice va vn vc, .bool sv] 30) = wb at *
        go_cut [57] from 38 to 138 (fun t57 wx => t57 = .bool false ∧ ∃ ps', Dx w1 wx xb tb db pb 800 n D ps' root prs pgs S ∧ Rd kdPr wx S (.slice aa prs.length ac) prs ∧ 200 ≤ freeP ps' ∧ Cel wx wr.heap.size [.bool s.cut, .slice ka kn kc, .slice va vn vc, .bool sv] 30)
        case first =>
          obtain ⟨hdb, hab, CB⟩ := HA.out
          have c3 := CB.cell 3
          have c1 := hdb.cel.cell 1
          have SE := dx_settle hdb
          have hfree := hdb.settled
          have hpg := hdb.hold.rt.few
          have hf2 : 200 ≤ freeP (settledP ps) := by
            obtain ⟨hpl, _, _, _, hfw⟩ := HP.out
            omega
          have HF2 := Lib.hid hf2
          clear hdb hab CB m0 m1 m2 m3 hfree hpg hf2
          rcases sv with _ | _
          · clear SE
            go_wp2_with fail
            go_meet
            case rel => exact ⟨rfl, ps, HA.out.1, HA.out.2.1, HP.out.2.1, HA.out.2.2⟩
          · go_wp2_with fail
            refine SE.mono ?_
            rintro e w3 ⟨rfl, st3, hd3⟩
            clear SE c1 c3
            have H3 := Lib.hid (And.intro st3 hd3)
            clear st3 hd3
            go_wp2_with fail
            go_meet
            case rel =>
              obtain ⟨st3, hd3⟩ := H3.out
              exact ⟨rfl, _, hd3, HA.out.2.1.step st3, HF2.out, HA.out.2.2.only st3.only HP.out.2.2.2.1⟩
        case rest =>
          obtain ⟨rfl, ps', hd3, ha3, hf3, CB3⟩ := hcut
          obtain ⟨hpl, hfr0, hn, hnS, hfew⟩ := HP.out
          have DO := does_any (K := 21) hd3 ha3 s (hd3.old HK.out.1) (hd3.old HK.out.2) (fun lvl h => few_levels h) (by omega) (by omega) (by omega)
          rw [← HNN.out.2.2] at DO
          have c0 := CB3.cell 0
          have c1 := CB3.cell 1
          have c2 := CB3.cell 2
          have c3 := CB3.cell 3
          have H3 := Lib.hid (And.intro hd3 (And.intro hf3 CB3))
          clear hd3 ha3 hf3 CB3 hpl hfr0 hn hnS hfew m0 m1 m2 m3 HA
          go_wp2_with fail
          refine DO.mono ?_
          rintro e w5 ⟨r5, av5, D5, ps5, pgs5, S5, rfl, st5, hf5, -, hd5, ha5⟩
          clear DO c0 c1 c2 c3
          obtain ⟨prs5, hprs5⟩ : ∃ p, p = stepP prs s := ⟨_, rfl⟩
          rw [← hprs5] at hd5 ha5
          have hl5 : prs5.length ≤ r + 1 := by
            have h1 := stepP_len prs s
            have h2 := HP.out.1
            rw [hprs5]
            omega
          obtain ⟨a5, c5, rfl, _⟩ := ha5.shape
          have CB5 := H3.out.2.2.only st5.only HP.out.2.2.2.1
          have hf5' : 179 ≤ freeP ps5 := by
            have := H3.out.2.1
            omega
          have hd1 : Below w5.heap.size w5 w5.drew := (Below.refl _ _).drew
          have S1 : w5.drew.cell? ⟨xb, 2, none⟩ = some (ptr tb) := hd5.cel.cell 2
          have S2 : w5.drew.cell? ⟨wr.heap.size, 1, none⟩ = some (.slice ka kn kc) := CB5.cell 1
          have HX := Lib.hid (fun (W : World) (hW : W.cell? ⟨xb, 2, none⟩ = some (ptr tb) ∧ W.cell? ⟨wr.heap.size, 1, none⟩ = some (.slice ka kn kc)) => hW)
          have GT := dx_gets (hd5.later hd1) ((hd5.later hd1).old HK.out.1)
          have H5 := Lib.hid (And.intro hd5 (And.intro ha5 (And.intro hl5 (And.intro CB5 (And.intro hf5' hd1)))))
          clear st5 hf5 hd5 ha5 hprs5 hl5 CB5 hf5' hd1
          go_wp2
          refine region_till 99 (fun W => W.cell? ⟨xb, 2, none⟩ = some (ptr tb) ∧ W.cell? ⟨wr.heap.size, 1, none⟩ = some (.slice ka kn kc)) (by kernel_rfl) ⟨S1, S2⟩ (fun hS => ?_)
          clear S1 S2
          refine take_till (i := 0) (some 72) (ptr xb) rfl rfl (by kernel_rfl) (by kernel_rfl) (by kernel_rfl) (by kernel_rfl) (by decide) (fun _ _ _ h => h) (by rfl) (fun W hW => ?_) hS ?_
          · have hx := HX.out W hW
            clear hW
            go_simp
          simp only [Act.put, List.setIfInBounds_toArray, List.set_cons_zero, List.set_cons_succ]
          refine take_till (i := 1) (some 73) (ptr xb) rfl rfl (by kernel_rfl) (by kernel_rfl) (by kernel_rfl) (by kernel_rfl) (by decide) (fun _ _ _ h => h) (by rfl) (fun W hW => ?_) hS ?_
          · have hx := HX.out W hW
            clear hW
            go_simp
          simp only [Act.put, List.setIfInBounds_toArray, List.set_cons_zero, List.set_cons_succ]
          refine take_till (i := 2) (some 74) (.pointer (some ⟨xb, 2, none⟩)) rfl rfl (by kernel_rfl) (by kernel_rfl) (by kernel_rfl) (by kernel_rfl) (by decide) (fun _ _ _ h => h) (by rfl) (fun W hW => ?_) hS ?_
          · have hx := HX.out W hW
            clear hW
            go_simp
          simp only [Act.put, List.setIfInBounds_toArray, List.set_cons_zero, List.set_cons_succ]
          refine take_till (i := 3) (some 75) (ptr tb) rfl rfl (by kernel_rfl) (by kernel_rfl) (by kernel_rfl) (by kernel_rfl) (by decide) (fun _ _ _ h => h) (by rfl) (fun W hW => ?_) hS ?_
          · have hx := HX.out W hW
            clear hW
            go_simp
          simp only [Act.put, List.setIfInBounds_toArray, List.set_cons_zero, List.set_cons_succ]
          refine take_till (i := 4) (some 76) (.int .i64 r5) rfl rfl (by kernel_rfl) (by kernel_rfl) (by kernel_rfl) (by kernel_rfl) (by decide) (fun _ _ _ h => h) (by rfl) (fun W hW => ?_) hS ?_
          · have hx := HX.out W hW
            clear hW
            go_simp
          simp only [Act.put, List.setIfInBounds_toArray, List.set_cons_zero, List.set_cons_succ]
          refine take_till (i := 5) (some 77) (.pointer (some ⟨wr.heap.size, 1, none⟩)) rfl rfl (by kernel_rfl) (by kernel_rfl) (by kernel_rfl) (by kernel_rfl) (by decide) (fun _ _ _ h => h) (by rfl) (fun W hW => ?_) hS ?_
          · have hx := HX.out W hW
            clear hW
            go_simp
          simp only [Act.put, List.setIfInBounds_toArray, List.set_cons_zero, List.set_cons_succ]
          refine take_till (i := 6) (some 78) (.slice ka kn kc) rfl rfl (by kernel_rfl) (by kernel_rfl) (by kernel_rfl) (by kernel_rfl) (by decide) (fun _ _ _ h => h) (by rfl) (fun W hW => ?_) hS ?_
          · have hx := HX.out W hW
            clear hW
            go_simp
          simp only [Act.put, List.setIfInBounds_toArray, List.set_cons_zero, List.set_cons_succ]
          refine next_till 7 (by kernel_rfl) rfl (fun Kx hK => ?_)
          go_simp
          refine GT.mono ?_
          rintro e w6 ⟨a6, k6, c6, b6, x6, rfl, hb6, hgood⟩
          clear GT
          obtain ⟨hd5, ha5, hl5, CB5, hf5', hd1⟩ := H5.out
          have hb56 := hd1.trans (hb6.mono hd1.size)
          have T1 : w6.cell? ⟨xb, 2, none⟩ = some (ptr tb) := (hd5.later hb56).cel.cell 2
          have T2 : w6.cell? ⟨wr.heap.size, 1, none⟩ = some (.slice ka kn kc) := (CB5.below hb56 CB5.lt).cell 1
          refine hK.out _ _ (fun _ => ⟨T1, T2⟩) ?_
          clear hK Kx
          replace hS : w6.cell? ⟨xb, 2, none⟩ = some (ptr tb) ∧ w6.cell? ⟨wr.heap.size, 1, none⟩ = some (.slice ka kn kc) := ⟨T1, T2⟩
          have RG := rget_any w6 (ha5.step (Step.of_below hb56 S5)) ((hd5.later hb56).old HK.out.1).1
          have H6 := Lib.hid (And.intro hb56 hgood)
          clear hd5 ha5 hl5 CB5 hf5' hd1 hb6 hb56 hgood T1 T2
          refine take_till (i := 8) (some 71) (.tuple #[.slice a6 k6 c6, .bool b6, err x6]) rfl rfl (by kernel_rfl) (by kernel_rfl) (by kernel_rfl) (by kernel_rfl) (by decide) (fun _ _ _ h => h) (by rfl) (fun W hW => ?_) hS ?_
          · have hx := HX.out W hW
            clear hW
            go_simp
          simp only [Act.put, List.setIfInBounds_toArray, List.set_cons_zero, List.set_cons_succ]
          refine take_till (i := 9) (some 80) (.slice a6 k6 c6) rfl rfl (by kernel_rfl) (by kernel_rfl) (by kernel_rfl) (by kernel_rfl) (by decide) (fun _ _ _ h => h) (by rfl) (fun W hW => ?_) hS ?_
          · have hx := HX.out W hW
            clear hW
            go_simp
          simp only [Act.put, List.setIfInBounds_toArray, List.set_cons_zero, List.set_cons_succ]
          refine take_till (i := 10) (some 81) (.bool b6) rfl rfl (by kernel_rfl) (by kernel_rfl) (by kernel_rfl) (by kernel_rfl) (by decide) (fun _ _ _ h => h) (by rfl) (fun W hW => ?_) hS ?_
          · have hx := HX.out W hW
            clear hW
            go_simp
          simp only [Act.put, List.setIfInBounds_toArray, List.set_cons_zero, List.set_cons_succ]
          refine take_till (i := 11) (some 82) (err x6) rfl rfl (by kernel_rfl) (by kernel_rfl) (by kernel_rfl) (by kernel_rfl) (by decide) (fun _ _ _ h => h) (by rfl) (fun W hW => ?_) hS ?_
          · have hx := HX.out W hW
            clear hW
            go_simp
          simp only [Act.put, List.setIfInBounds_toArray, List.set_cons_zero, List.set_cons_succ]
          refine take_till (i := 12) (some 15) (.slice a6 k6 c6) rfl rfl (by kernel_rfl) (by kernel_rfl) (by kernel_rfl) (by kernel_rfl) (by decide) (fun _ _ _ h => h) (by rfl) (fun W hW => ?_) hS ?_
          · have hx := HX.out W hW
            clear hW
            go_simp
          simp only [Act.put, List.setIfInBounds_toArray, List.set_cons_zero, List.set_cons_succ]
          refine take_till (i := 13) (some 16) (.bool b6) rfl rfl (by kernel_rfl) (by kernel_rfl) (by kernel_rfl) (by kernel_rfl) (by decide) (fun _ _ _ h => h) (by rfl) (fun W hW => ?_) hS ?_
          · have hx := HX.out W hW
            clear hW
            go_simp
          simp only [Act.put, List.setIfInBounds_toArray, List.set_cons_zero, List.set_cons_succ]
          refine take_till (i := 14) (some 17) (err x6) rfl rfl (by kernel_rfl) (by kernel_rfl) (by kernel_rfl) (by kernel_rfl) (by decide) (fun _ _ _ h => h) (by rfl) (fun W hW => ?_) hS ?_
          · have hx := HX.out W hW
            clear hW
            go_simp
          simp only [Act.put, List.setIfInBounds_toArray, List.set_cons_zero, List.set_cons_succ]
          refine done_till (by kernel_rfl) ?_ _
          obtain ⟨-, T2⟩ := hS
          clear HX
          go_wp2_with fail
          refine RG.mono ?_
          rintro e w7 ⟨v7, rfl, hv7, hb7⟩
          clear RG T2
          obtain ⟨a7, c7, rfl, _⟩ := hv7.1.shape
          obtain ⟨l7, hl7⟩ : ∃ l7, l7 = (lookP prs5 s.key).getD [] := ⟨_, rfl⟩
          obtain ⟨o7, ho7⟩ : ∃ o7, o7 = (lookP prs5 s.key).isSome := ⟨_, rfl⟩
          rw [← hl7] at hv7
          rw [← hl7, ← ho7]
          have H7 := Lib.hid (And.intro hv7 (And.intro (H6.out.1.trans (hb7.mono H6.out.1.size)) (And.intro hb7 (And.intro hl7 ho7))))
          clear hv7 hb7 hl7 ho7
          go_upto_region 21 with fail
          go_cut [108] from 38 to 138 (fun t108 wx => t108 = .bool false ∧ wx = w7)
          case first =>
            obtain ⟨hd5, ha5, hl5, CB5, hf5', hd1⟩ := H5.out
            obtain ⟨hv7, hb57, hb7, hl7, ho7⟩ := H7.out
            have T3 := (CB5.below hb57 CB5.lt).cell 1
            have MK := rmayKey_any w7 ((hd5.later hb57).old HK.out.1).1
            have hgood := H6.out.2
            rcases hmk : mayK s.key with _ | _
            · rw [hmk] at MK
              clear hd5 ha5 hl5 CB5 hf5' hd1 hv7 hb57 hb7 hl7 ho7 hgood hmk
              go_wp2_with fail
              refine MK.mono ?_
              rintro e w8 ⟨rfl, rfl⟩
              clear MK T3
              go_wp2_with fail
              go_meet
              case rel => exact ⟨rfl, rfl⟩
            · rw [hmk] at MK
              obtain ⟨hb6, rfl, hv6⟩ := hgood hmk
              rw [← ho7] at hb6
              rw [← hl7] at hv6
              have k1 := run_string_bs bt (d := 9) Tryz.underlying9 w7 (hv6.1.below hb7)
              have k2 := run_string_bs bt (d := 9) Tryz.underlying9 w7 hv7.1
              have hbb : (b6 != o7) = false := by rw [hb6]; simp
              have hll : (l7 != l7) = false := by simp
              clear hd5 ha5 hl5 CB5 hf5' hd1 hv7 hb57 hb7 hl7 ho7 hgood hmk hv6
              subst hb6
              clear hbb
              go_wp2_with fail
              refine MK.mono ?_
              rintro e w8 ⟨rfl, rfl⟩
              clear MK T3
              go_wp2_with fail
              go_meet
              case rel => exact ⟨rfl, rfl⟩
          case rest =>
            obtain ⟨rfl, rfl⟩ := hcut
            go_upto_region 23 with fail
            go_cut [124] from 38 to 138 (fun t124 wx => t124 = .bool false ∧ Below wc.heap.size wc wx)
            case first =>
              obtain ⟨hd5, ha5, hl5, CB5, hf5', hd1⟩ := H5.out
              obtain ⟨hv7, hb57, hb7, hl7, ho7⟩ := H7.out
              have LH := lheld_any (hd5.later hb57)
              have LA := fun W (hb : Below wc.heap.size wc W) => lhas_any (((hd5.later hb57).later hb).cel.cell 2) ((hd5.later hb57).later hb).tr ((hd5.later hb57).later hb).on ((hd5.later hb57).later hb).hold.rt ((hd5.later hb57).later hb).few ((ha5.step (Step.of_below hb57 S5)).step (Step.of_below hb S5))
              have hdec : decide (prs5 = prs5) = true := by simp
              rw [hdec] at LA
              have HLA := Lib.hid LA
              clear hd5 ha5 hl5 CB5 hf5' hd1 hv7 hb57 hb7 hl7 ho7 LA hdec
              by_cases h16 : r % 16 = 15
              · have e1 : (r : Int) % 16 = 15 := by omega
                have e2 : Int.tmod (r : Int) 16 = 15 := by rw [Int.tmod_eq_emod_of_nonneg (by omega)]; exact e1
                clear h16
                go_wp2_with fail
                refine LH.mono ?_
                rintro e w8 ⟨rfl, hb8⟩
                clear LH
                have LB := HLA.out w8 hb8
                have H8 := Lib.hid hb8
                clear hb8
                go_wp2_with fail
                refine LB.mono ?_
                rintro e w9 ⟨rfl, hb9⟩
                clear LB
                have H9 := Lib.hid (H8.out.trans (hb9.mono H8.out.size))
                clear hb9
                go_wp2_with fail
                go_meet
                case rel => exact ⟨rfl, H9.out⟩
              · have e1 : ¬ (r : Int) % 16 = 15 := by omega
                have e2 : ¬ Int.tmod (r : Int) 16 = 15 := by rw [Int.tmod_eq_emod_of_nonneg (by omega)]; exact e1
                clear h16 LH
                go_wp2_with fail
                go_meet
                case rel => exact ⟨rfl, Below.refl _ _⟩
            case rest =>
              obtain ⟨rfl, hb8⟩ := hcut
              have H8 := Lib.hid hb8
              clear hb8
              go_upto_region 25 with fail
              go_cut [138] from 38 to 138 (fun t138 wx => t138 = .bool false ∧ ∃ ps9, Dx w1 wx xb tb db pb 800 (n + 21) D5 ps9 r5 prs5 pgs5 S5 ∧ Rd kdPr wx S5 (.slice a5 prs5.length c5) prs5 ∧ 200 ≤ freeP ps9)
              case first =>
                obtain ⟨hd5, ha5, hl5, CB5, hf5', hd1⟩ := H5.out
                obtain ⟨hv7, hb57, hb7, hl7, ho7⟩ := H7.out
                have hbx := hb57.trans (H8.out.mono hb57.size)
                have hd8 := hd5.later hbx
                have FR := dx_free hd8
                have SE := dx_settle hd8
                have hfree := hd8.settled
                have hpg := hd8.hold.rt.few
                have hfw := HP.out.2.2.2.2
                have hf2 : 200 ≤ freeP (settledP ps5) := by omega
                have c1 := hd8.cel.cell 1
                have HF2 := Lib.hid (And.intro hf2 (And.intro hd8 (ha5.step (Step.of_below hbx S5))))
                clear hd5 ha5 hl5 CB5 hf5' hd1 hv7 hb57 hb7 hl7 ho7 hbx hd8 hfree hpg hf2 hfw
                by_cases hlow : freeP ps5 < 300
                · have h1 : (freeP ps5 : Int) < 300 := by omega
                  clear hlow
                  go_wp2_with fail
                  refine FR.mono ?_
                  rintro e w9 ⟨rfl, rfl⟩
                  clear FR
                  go_wp2_with fail
                  refine SE.mono ?_
                  rintro e w9 ⟨rfl, st9, hd9⟩
                  clear SE c1
                  have H9 := Lib.hid (And.intro st9 hd9)
                  clear st9 hd9
                  go_wp2_with fail
                  go_meet
                  case rel => exact ⟨rfl, _, H9.out.2, HF2.out.2.2.step H9.out.1, HF2.out.1⟩
                · have h1 : ¬ (freeP ps5 : Int) < 300 := by omega
                  have HL := Lib.hid hlow
                  clear hlow SE
                  go_wp2_with fail
                  refine FR.mono ?_
                  rintro e w9 ⟨rfl, rfl⟩
                  clear FR c1
                  go_wp2_with fail
                  go_meet
                  case rel => exact ⟨rfl, ps5, HF2.out.2.1, HF2.out.2.2, by have := HL.out; omega⟩
              case rest =>
                obtain ⟨rfl, ps9, hd9, ha9, hf9⟩ := hcut
                have H9 := Lib.hid (And.intro hd9 (And.intro ha9 hf9))
                clear hd9 ha9 hf9
                go_wp2
                go_roundw
                case rel => exact ⟨r + 1, by omega, by go_num, r5, prs5, D5, ps9, pgs5, S5, n + 21, rfl, H9.out.1, H9.out.2.1, H5.out.2.2.1, H9.out.2.2, by have := HP.out.2.2.1; omega⟩
                case measure => simp [intOf]; omega
      · obtain rfl : r = ln := by omega
        have hil : ¬ (r : Int) < (r : Int) := by omega
        obtain ⟨aa, ac, rfl, _⟩ := hav.shape
        have hf1 := hd.old (hf.below H1.out)
        have ht1 := hd.old (ht.below H1.out)
        have SC := scan_any hd.tr hd.on hf1 ht1 hd.hold.rt hd.few
        have c2 := hd.cel.cell 2
        have hroot : prs = [] ↔ root = -1 := by
          rcases hd.hold.rt.at_ with ⟨h1, h2, _⟩ | ⟨l, k, hs, h1, h2, _⟩
          · exact ⟨fun _ => h1, fun _ => h2⟩
          · exact ⟨fun e => absurd (h2 ▸ e) hs.ne, fun e => by omega⟩
        have HE := Lib.hid (And.intro hd (And.intro hav (And.intro hf1 (And.intro ht1 (And.intro hroot (show prs.length ≤ 1000000 by omega))))))
        clear hl hf ht hln hfew hd hav hpl hfr hn hf1 ht1 hroot
        go_wp2_with fail
        refine SC.mono ?_
        rintro e w3 ⟨v3, rfl, hv3, hb3⟩
        clear SC c2
        obtain ⟨hd, hav, hf1, ht1, hroot, hlen⟩ := HE.out
        have RS := rscan_any w3 (hav.step (Step.of_below hb3 S)) (hf1.1.below hb3) (ht1.1.below hb3) (fun q hq => Nat.lt_of_lt_of_le (hd.tr.lt q hq) hb3.size) hlen
        have H3 := Lib.hid (And.intro hv3 hb3)
        clear hd hav hf1 ht1 hroot hlen hv3 hb3
        go_wp2_with fail
        refine RS.mono ?_
        rintro e w4 ⟨v4, rfl, hv4, hb4⟩
        clear RS
        have SA := rsame_any w4 (H3.out.1.step (Step.of_below hb4 S)) hv4
        rw [decide_eq_true rfl] at SA
        have hb34 := H3.out.2.trans (hb4.mono H3.out.2.size)
        have H4 := Lib.hid hb34
        clear hv4 hb4 hb34
        go_wp2_with fail
        refine SA.mono ?_
        rintro e w5 ⟨rfl, hb5⟩
        clear SA
        have hb35 := H4.out.trans (hb5.mono H4.out.size)
        have LH := lheld_any (HE.out.1.later hb35)
        have H5 := Lib.hid hb35
        clear hb5 hb35
        go_wp2_with fail
        refine LH.mono ?_
        rintro e w6 ⟨rfl, hb6⟩
        clear LH
        have hb36 := H5.out.trans (hb6.mono H5.out.size)
        have hd6 := HE.out.1.later hb36
        have LA := lhas_any (hd6.cel.cell 2) hd6.tr hd6.on hd6.hold.rt hd6.few (HE.out.2.1.step (Step.of_below hb36 S))
        rw [decide_eq_true rfl] at LA
        have H6 := Lib.hid hb36
        clear hb6 hb36 hd6
        go_wp2_with fail
        refine LA.mono ?_
        rintro e w7 ⟨rfl, hb7⟩
        clear LA
        have WK := tworks_any w7
        have H7 := Lib.hid (H6.out.trans (hb7.mono H6.out.size))
        clear hb7
        by_cases hne : prs = []
        · have hr1 := HE.out.2.2.2.2.1.1 hne
          have hr2 : (root == -1) = true := by simp [hr1]
          have hr3 : (prs.length : Int) = 0 := by rw [hne]; rfl
          have hr4 : ((prs.length : Int) == 0) = true := by simp [hr3]
          clear hne hr1
          go_wp2_with fail
          refine WK.mono ?_
          rintro e w8 ⟨rfl, hb8⟩
          clear WK
          have H8 := Lib.hid hb8
          clear hb8
          go_wp2
          go_ret
          have hbw := H1.out.trans (HE.out.1.bw.mono H1.out.size)
          exact ⟨rfl, (hbw.trans (H7.out.mono hbw.size)).trans (H8.out.mono (hbw.trans (H7.out.mono hbw.size)).size)⟩
        · have hr1 : ¬ root = -1 := fun e => hne (HE.out.2.2.2.2.1.2 e)
          have hr2 : (root == -1) = false := by rw [beq_eq_false_iff_ne]; exact hr1
          have hr3 : ¬ (prs.length : Int) = 0 := by
            have := List.length_pos_iff.2 hne
            omega
          have hr4 : ((prs.length : Int) == 0) = false := by rw [beq_eq_false_iff_ne]; exact hr3
          clear hne
          go_wp2_with fail
          refine WK.mono ?_
          rintro e w8 ⟨rfl, hb8⟩
          clear WK
          have H8 := Lib.hid hb8
          clear hb8
          go_wp2
          go_ret
          have hbw := H1.out.trans (HE.out.1.bw.mono H1.out.size)
          exact ⟨rfl, (hbw.trans (H7.out.mono hbw.size)).trans (H8.out.mono (hbw.trans (H7.out.mono hbw.size)).size)⟩
  · clear hfew
    go_wp2_with fail
    refine anchor.mono ?_
    rintro e w2 ⟨rfl, hb⟩
    clear anchor
    go_wp2
    go_ret
    exact ⟨rfl, hb⟩
end Go.Proofs.YtgekeemhbnhelaaGreat
