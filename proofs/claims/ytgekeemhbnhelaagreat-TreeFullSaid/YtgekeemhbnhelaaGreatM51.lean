/- The walk of TreeFull: it returns true and writes nothing that was there; condition: the first argument is a byte. -/
import Derived.Test.YtgekeemhbnhelaaGreatM50
import Derived.Deep.CutBlock
namespace Go.Proofs.YtgekeemhbnhelaaGreat
open Go.RowKit

/-- Between two rounds. -/
def FullR (w1 : World) (xb tb db pb N : Nat) (r : Nat) (wr : World) (rv av : Value) : Prop := ∃ (root : Int) (prs : List Pr) (D : Dv) (ps : List Pg) (pgs : List Nat) (S : Nat → Prop) (n : Nat),
  rv = .int .i64 root ∧ Dx w1 wr xb tb db pb N n D ps root prs pgs S ∧ Rd kdPr wr S av prs ∧ prs.length ≤ r ∧ n ≤ 13 * r
/-- Within a round: the desk, the document's pairs, the step's own box. -/
structure FullM (w1 w : World) (xb tb db pb N n : Nat) (D : Dv) (ps : List Pg) (root : Int) (prs : List Pr) (pgs : List Nat) (S : Nat → Prop) (av : Value) (bx : Nat) (bc : List Value) : Prop where
  dz : Dz w1 w xb tb db pb N n D ps root prs pgs S
  rd : Rd kdPr w S av prs
  box : Cel w bx bc 30
  nob : ¬ S bx
section
variable {w1 w w' : World} {xb tb db pb N n m bx : Nat} {D D' : Dv} {ps ps' : List Pg} {root root' : Int} {prs prs' : List Pr} {pgs pgs' : List Nat} {S S' : Nat → Prop} {av : Value} {bc : List Value}
theorem FullM.to (h : FullM w1 w xb tb db pb N n D ps root prs pgs S av bx bc) (st : Step S w w' S') (hd : Dz w1 w' xb tb db pb N m D' ps' root prs pgs' S') : FullM w1 w' xb tb db pb N m D' ps' root prs pgs' S' av bx bc :=
  ⟨hd, h.rd.step st, h.box.only st.only h.nob, fun hq => (st.more _ hq).elim h.nob fun h1 => by have := h.box.lt; omega⟩
theorem FullM.later (h : FullM w1 w xb tb db pb N n D ps root prs pgs S av bx bc) (hb : Below w.heap.size w w') : FullM w1 w' xb tb db pb N n D ps root prs pgs S av bx bc := h.to (Step.of_below hb S) (h.dz.later hb)
/-- A page's state, as a byte. -/
def stB (ps : List Pg) (k : Nat) : UInt8 := UInt8.ofNat (stateP ps (k : Int))
def wasL (ps : List Pg) (k : Nat) : Bytes := (List.range k).map (stB ps)
theorem stB_nat (ps : List Pg) (k : Nat) : (stB ps k).toNat = stateP ps (k : Int) := by
  have h : stateP ps (k : Int) < 256 := by
    unfold stateP
    split
    · decide
    · rename_i x _
      rcases x with ⟨_ | _, _ | _⟩ <;> decide
  unfold stB
  simp only [UInt8.toNat_ofNat']
  omega
theorem wasL_length (ps : List Pg) (k : Nat) : (wasL ps k).length = k := by simp [wasL]
theorem wasL_succ (ps : List Pg) (k : Nat) : wasL ps (k + 1) = wasL ps k ++ [stB ps k] := by simp [wasL, List.range_succ]
theorem wasL_get {ps : List Pg} {k n : Nat} (h : k < n) : (wasL ps n)[k]? = some (stB ps k) := by simp [wasL, h]
theorem ow_none (w : World) (base : Nat) (e : TypeId) : Ow w base e (.slice none 0 0) [] := ⟨rfl, .inl ⟨rfl, rfl⟩⟩
theorem Dz.stateB (h : Dz w1 w xb tb db pb N n D ps root prs pgs S) (k : Nat) : Calls Tryz.prog 33 #[ptr pb, .int .i64 (k : Int)] w fun e w' => e = .returned (.int .u8 ((stB ps k).toNat : Int)) ∧ w = w' := by
  rw [stB_nat]
  exact h.state k
theorem FullTo.back {wd w2 : World} {prs1 : List Pr} {r c : Int} (h : FullTo w1 wd xb tb db pb N n ps root prs prs1 S r c w2) (hb : Below w.heap.size w wd) : FullTo w1 w xb tb db pb N n ps root prs prs1 S r c w2 := by
  obtain ⟨D', ps', root', prs', pgs', S', st, h⟩ := h
  exact ⟨D', ps', root', prs', pgs', S', (Step.of_below hb S).trans st, h⟩
theorem FullTo.cells {prs1 : List Pr} {r c : Int} {b0 b3 : Bool} {v1 v2 : Value} {w2 : World} {cbt : TypeId} {u0 u1 : Value} (h : FullTo w1 w xb tb db pb N n ps root prs prs1 S r c w2) (hc : Cel w xb [u0, u1, ptr tb] cbt) (hx : ¬ S xb) (hb : Cel w bx [.bool b0, v1, v2, .bool b3] 30) (hn : ¬ S bx) :
    w2.cell? ⟨xb, 2, none⟩ = some (ptr tb) ∧ w2.cell? ⟨bx, 1, none⟩ = some v1 ∧ w2.cell? ⟨bx, 2, none⟩ = some v2 := by
  obtain ⟨D', ps', root', prs', pgs', S', st, _⟩ := h
  have h1 := hc.only st.only hx
  have h2 := hb.only st.only hn
  exact ⟨h1.cell 2, h2.cell 1, h2.cell 2⟩
theorem few_cut (prs : List Pr) (key : Bytes) : (cutP prs key).length ≤ prs.length := List.length_filter_le _ _
theorem few_put (prs : List Pr) (key val : Bytes) : (putP prs key val).length ≤ prs.length + 1 := by
  induction prs with
  | nil => exact Nat.le_refl _
  | cons a t ih =>
    unfold putP
    split
    · rw [List.length_cons, List.length_cons]; omega
    · split <;> simp
theorem iv_three (w : World) (a b c : Int) (ha : 0 ≤ a ∧ a ≤ 1000) (hb : 0 ≤ b ∧ b ≤ 1000) (hc : 0 ≤ c ∧ c ≤ 1000) : Iv (w.alloc (.cells #[.int .i64 a, .int .i64 b, .int .i64 c] 3)) (.slice (some ⟨w.heap.size, 0, none⟩) 3 3) [a, b, c] := by
  have hC := Cel.new w #[.int .i64 a, .int .i64 b, .int .i64 c] 3
  refine ⟨_, 3, rfl, by simp, (fun h => by cases h), fun ad had i u hu => ?_, fun u hu => ?_⟩
  · cases had
    match i, hu with
    | 0, hu => cases hu; exact hC.cell 0
    | 1, hu => cases hu; exact hC.cell 1
    | 2, hu => cases hu; exact hC.cell 2
  · simp only [List.mem_cons, List.not_mem_nil, or_false] at hu
    omega
theorem Dz.rise (h : Dz w1 w xb tb db pb N n D ps root prs pgs S) : RiseP prs := h.hold.rt.rise
end

set_option maxRecDepth 100000 in
set_option maxHeartbeats 16000000 in
theorem treeFull_any {fw : Int} {lv : Value} {ls : List Sp} {arm : Int} (w : World) (hf0 : 0 ≤ fw ∧ fw ≤ 255) (hl : Rd kdSp w (fun _ => False) lv ls) (har : -9223372036854775808 ≤ arm ∧ arm ≤ 9223372036854775807) :
    Calls Tryz.prog 6 #[.int .u8 fw, lv, .int .i64 arm] w (Yes w) := by
  obtain ⟨la, lc, rfl, _⟩ := hl.shape
  obtain ⟨ln, hln⟩ : ∃ ln, ln = ls.length := ⟨_, rfl⟩
  have HV := heavy_any w hl
  rw [← hln] at hl HV ⊢
  have HH := Lib.hid (And.intro hl hln)
  clear hl hln
  obtain ⟨N, hN1, hN2, hN3⟩ : ∃ N : Nat, 1 ≤ N ∧ N ≤ 60 ∧ 1 + Int.tmod fw 60 = (N : Int) := by
    refine ⟨(1 + fw % 60).toNat, by omega, by omega, ?_⟩
    rw [Int.tmod_eq_emod_of_nonneg (by omega)]
    omega
  obtain ⟨m60, hm60⟩ : ∃ m, m = Int.tmod fw 60 := ⟨_, rfl⟩
  obtain ⟨ar, har1, har2⟩ : ∃ ar, ar = Int.tmod arm 8 ∧ -9 < ar ∧ ar < 9 := ⟨_, rfl, by have h := Int.tmod_lt_of_pos arm (show (0 : Int) < 8 by decide); have h2 := Int.lt_tmod_of_pos arm (show (0 : Int) < 8 by decide); omega⟩
  rw [← hm60] at hN3
  have hm60' := hm60.symm
  have har1' := har1.symm
  have h0fw := hf0.1
  have h1fw := hf0.2
  have h0ar := har.1
  have h1ar := har.2
  clear hm60 har1 hf0 har
  go_enter Tryz.func6, Tryz.ntmps6
  go_wp2_with fail
  refine HV.mono ?_
  rintro e w1 ⟨hb, rfl, hb1, hfew⟩
  clear HV
  rcases hb with _ | _
  · replace hfew := hfew rfl
    have DK := desk_any N hN1 (by omega) w1
    have H1 := Lib.hid (And.intro hb1 hfew)
    clear hb1 hfew
    go_wp2_with fail
    refine DK.mono ?_
    rintro e w2 ⟨xb, tb, rfl, hk⟩
    clear DK
    obtain ⟨db, pb, D, pgs, S, hd⟩ := hk.dx
    have HD := Lib.hid hd
    clear hk hd
    go_wp2
    go_loopw [9, 10, 11] (fun rv av i wr => ∃ r : Nat, r ≤ ln ∧ i = .int .i64 (r : Int) ∧ FullR w1 xb tb db pb N r wr rv av) (fun _ _ i _ => ln - (intOf i).toNat)
    case atStart =>
      exact ⟨0, Nat.zero_le _, rfl, -1, [], D, _, pgs, S, 0, rfl, HD.out, Rd.nil _ _ _, Nat.le_refl _, Nat.zero_le _⟩
    case round =>
      obtain ⟨r, hr, rfl, root, prs, D, ps, pgs, S, n, rfl, hd, hav, hpl, hn⟩ := hrel
      obtain ⟨hl, hln⟩ := HH.out
      obtain ⟨hb1, hfew⟩ := H1.out
      by_cases hlt : r < ln
      · obtain ⟨s, hs⟩ : ∃ s, ls[r]? = some s := ⟨_, List.getElem?_eq_getElem (by omega)⟩
        obtain ⟨g, o, cap, ka, kc, va, vc, e0, hg, k0, k1, k2, k3, bk, bv⟩ := (hl.step (Step.of_below hb1 _)).stp hs
        rw [← hln] at e0
        simp only [Value.slice.injEq] at e0
        obtain ⟨rfl, -, rfl⟩ := e0
        obtain ⟨kn, hkn⟩ : ∃ kn, kn = s.key.length := ⟨_, rfl⟩
        obtain ⟨vn, hvn⟩ : ∃ vn, vn = s.val.length := ⟨_, rfl⟩
        rw [← hkn] at k1 bk
        rw [← hvn] at k2 bv
        obtain ⟨cv, hcv⟩ : ∃ cv, cv = s.cut := ⟨_, rfl⟩
        rw [← hcv] at k0
        obtain ⟨sv, hsv⟩ : ∃ sv, sv = s.settle := ⟨_, rfl⟩
        rw [← hsv] at k3
        obtain ⟨aa, ac, rfl, _⟩ := hav.shape
        obtain ⟨an, han⟩ : ∃ an, an = prs.length := ⟨_, rfl⟩
        rw [← han] at hav ⊢
        have hil : (r : Int) < (ln : Int) := by omega
        have hr0 : (0 : Int) ≤ (r : Int) := by omega
        have hrl : ln ≤ 300 := hfew
        have m0 := (hd.bw.cell (p := ⟨g, o + r * 4, none⟩) hg).trans k0
        have m1 := (hd.bw.cell (p := ⟨g, o + r * 4 + 1, none⟩) hg).trans k1
        have m2 := (hd.bw.cell (p := ⟨g, o + r * 4 + 2, none⟩) hg).trans k2
        have m3 := (hd.bw.cell (p := ⟨g, o + r * 4 + 3, none⟩) hg).trans k3
        have hbb : Below wr.heap.size wr (wr.alloc (.cells #[.bool cv, .slice ka kn kc, .slice va vn vc, .bool sv] 30)) := (Below.refl _ _).alloc (Nat.le_refl _) _
        have CB := Cel.new wr #[.bool cv, .slice ka kn kc, .slice va vn vc, .bool sv] 30
        have hnS : ¬ S wr.heap.size := fun hq => Nat.lt_irrefl _ (hd.tr.lt _ hq)
        have HK := Lib.hid (And.intro bk.1 bv.1)
        have hdb := hd.later hbb
        have HM := Lib.hid (And.intro hdb.on (And.intro hdb.left (FullM.mk hdb.dz (hav.step (Step.of_below hbb S)) CB hnS)))
        have HP := Lib.hid (And.intro hpl (And.intro hn (And.intro han (And.intro hkn (And.intro hvn (And.intro hcv hsv))))))
        clear hl hln hb1 hfew hs hg k0 k1 k2 k3 bk bv hkn hvn hcv hsv hav hd hdb hbb CB hnS hpl hn han
        go_upto_region 13 with fail
        obtain ⟨bx, hbx⟩ : ∃ bx, bx = wr.heap.size := ⟨_, rfl⟩
        rw [← hbx] at HM
        rw [← hbx]
        clear hbx
        generalize wr.alloc (.cells #[.bool cv, .slice ka kn kc, .slice va vn vc, .bool sv] 30) = wb at *
        go_cut [57] from 30 to 211 (fun t57 wx => t57 = .bool false ∧ ∃ D1 ps1 S1, D1.on = true ∧ D1.left = -1 ∧ FullM w1 wx xb tb db pb N n D1 ps1 root prs pgs S1 (.slice aa an ac) bx [.bool cv, .slice ka kn kc, .slice va vn vc, .bool sv])
        case first => as_aux_lemma =>
          obtain ⟨hon, hle, hm⟩ := HM.out
          have c3 := hm.box.cell 3
          have c1 := hm.dz.cel.cell 1
          have c0 := hm.dz.cel.cell 0
          have SE := dx_settle (hm.dz.dx hon hle)
          clear m0 m1 m2 m3 hon hle hm
          rcases sv with _ | _
          · clear SE c0 c1
            go_wp2_with fail
            go_meet
            case rel => exact ⟨rfl, D, ps, S, HM.out⟩
          · clear c0
            go_wp2_with fail
            refine SE.mono ?_
            rintro e w3 ⟨rfl, st3, hd3⟩
            clear SE c1 c3
            have c0 := hd3.cel.cell 0
            have FL := dx_flush hd3 (by have := HP.out.2.1; omega)
            have hm3 := HM.out.2.2.to st3 hd3.dz
            have H3 := Lib.hid hm3
            clear st3 hd3 hm3
            go_wp2_with fail
            refine FL.mono ?_
            rintro e w4 ⟨rfl, D4, S4, st4, hd4, -⟩
            clear FL c0
            have H4 := Lib.hid (And.intro st4 hd4)
            clear st4 hd4
            go_wp2_with fail
            go_meet
            case rel => exact ⟨rfl, D4, _, S4, H4.out.2.on, H4.out.2.left, H3.out.to H4.out.1 H4.out.2.dz⟩
        case rest =>
          obtain ⟨rfl, D1, ps1, S1, hon1, hle1, hm1⟩ := hcut
          clear HM m0 m1 m2 m3
          have c1 := hm1.box.cell 1
          have c2 := hm1.box.cell 2
          have MK := rmayKey_any wc (hm1.dz.old HK.out.1).1
          have MV := rmayVal_any wc (hm1.dz.old HK.out.2).1
          have HM := Lib.hid (And.intro hon1 (And.intro hle1 hm1))
          clear hon1 hle1 hm1
          rcases hmk : mayK s.key with _ | _
          · rw [hmk] at MK
            clear hmk c2 MV
            go_wp2_with fail
            refine MK.mono ?_
            rintro e w5 ⟨rfl, rfl⟩
            clear MK c1
            go_wp2
            go_roundw
            case rel => exact ⟨r + 1, by omega, by go_num, root, prs, D1, ps1, pgs, S1, n, rfl, HM.out.2.2.dz.dx HM.out.1 HM.out.2.1, HM.out.2.2.rd, by have := HP.out.1; omega, by have := HP.out.2.1; omega⟩
            case measure => simp [intOf]; omega
          rcases hmv : mayV s.val with _ | _
          · rw [hmk] at MK
            rw [hmv] at MV
            clear hmk hmv
            go_wp2_with fail
            refine MK.mono ?_
            rintro e w5 ⟨rfl, rfl⟩
            clear MK c1
            go_wp2_with fail
            refine MV.mono ?_
            rintro e w5 ⟨rfl, rfl⟩
            clear MV c2
            go_wp2
            go_roundw
            case rel => exact ⟨r + 1, by omega, by go_num, root, prs, D1, ps1, pgs, S1, n, rfl, HM.out.2.2.dz.dx HM.out.1 HM.out.2.1, HM.out.2.2.rd, by have := HP.out.1; omega, by have := HP.out.2.1; omega⟩
            case measure => simp [intOf]; omega
          rw [hmk] at MK
          rw [hmv] at MV
          have HY := Lib.hid (And.intro hmk hmv)
          clear hmk hmv
          go_wp2_with fail
          refine MK.mono ?_
          rintro e w5 ⟨rfl, rfl⟩
          clear MK c1
          go_wp2_with fail
          refine MV.mono ?_
          rintro e w5 ⟨rfl, rfl⟩
          clear MV c2
          go_upto_region 16 with fail
          go_cut [88] from 30 to 211 (fun t88 wy => t88 = .bool false ∧ ∃ D2 S2, D2.on = true ∧ (D2.left = -1 ∨ Sure D2 pgs) ∧ FullM w1 wy xb tb db pb N n D2 ps1 root prs pgs S2 (.slice aa an ac) bx [.bool cv, .slice ka kn kc, .slice va vn vc, .bool sv])
          case first => as_aux_lemma =>
            by_cases h5 : r % 5 = 4
            · have e1 : (r : Int) % 5 = 4 := by omega
              have e2 : Int.tmod (r : Int) 5 = 4 := by rw [Int.tmod_eq_emod_of_nonneg (by omega)]; exact e1
              clear h5
              obtain ⟨hon, hle, hm⟩ := HM.out
              have FL := dx_flush (hm.dz.dx hon hle) (by have := HP.out.2.1; omega)
              have c0 := hm.dz.cel.cell 0
              clear hon hle hm
              go_wp2_with fail
              refine FL.mono ?_
              rintro e w6 ⟨rfl, D6, S6, st6, hd6, hs6⟩
              clear FL c0
              have c0 := hd6.cel.cell 0
              have AR := dz_arm hd6.dz hd6.on ar (by omega)
              have H6 := Lib.hid (And.intro st6 (And.intro hd6 hs6))
              clear st6 hd6 hs6
              go_wp2_with fail
              refine AR.mono ?_
              rintro e w7 ⟨rfl, S7, st7, hd7⟩
              clear AR c0
              have H7 := Lib.hid (And.intro st7 hd7)
              clear st7 hd7
              go_wp2_with fail
              go_meet
              case rel =>
                obtain ⟨st6, hd6, hs6⟩ := H6.out
                obtain ⟨st7, hd7⟩ := H7.out
                exact ⟨rfl, ⟨D6.bk, true, max ar (-1)⟩, S7, rfl, .inr hs6, (HM.out.2.2.to st6 hd6.dz).to st7 hd7⟩
            · have e1 : ¬ (r : Int) % 5 = 4 := by omega
              have e2 : ¬ Int.tmod (r : Int) 5 = 4 := by rw [Int.tmod_eq_emod_of_nonneg (by omega)]; exact e1
              clear h5
              go_wp2_with fail
              go_meet
              case rel => exact ⟨rfl, D1, S1, HM.out.1, .inl HM.out.2.1, HM.out.2.2⟩
          case rest =>
            obtain ⟨rfl, D2, S2, hon2, hsl2, hm2⟩ := hcut
            clear HM
            have c1 := hm2.dz.cel.cell 1
            have FR := hm2.dz.free
            have HM := Lib.hid (And.intro hon2 (And.intro hsl2 hm2))
            clear hon2 hsl2 hm2
            go_wp2_with fail
            refine FR.mono ?_
            rintro e w5 ⟨rfl, rfl⟩
            clear FR c1
            go_wp2
            go_loopw [14, 15] (fun wv kv wr2 => ∃ k : Nat, k ≤ N ∧ kv = .int .i64 (k : Int) ∧ Ow wr2 wc.heap.size 5 wv (wasL ps1 k) ∧ Below wc.heap.size wc wr2) (fun _ kv _ => N - (intOf kv).toNat)
            case atStart => exact ⟨0, Nat.zero_le _, rfl, ow_none _ _ _, Below.refl _ _⟩
            case round =>
              obtain ⟨k, hk, rfl, hw, hb⟩ := hrel
              by_cases hlt : k < N
              · as_aux_lemma =>
                have ST := (HM.out.2.2.dz.later hb).stateB k
                have c1 := (HM.out.2.2.dz.later hb).cel.cell 1
                have hil2 : (k : Int) < (N : Int) := by omega
                have hk0 : (0 : Int) ≤ (k : Int) := by omega
                obtain ⟨x, hx⟩ : ∃ x, x = stB ps1 k := ⟨_, rfl⟩
                rw [← hx] at ST
                have hb' := hb.alloc hb.size (.cells #[.int .u8 (x.toNat : Int)] 5)
                have hw' := hw.below ((Below.refl _ _).alloc (Nat.le_refl _) (.cells #[.int .u8 (x.toNat : Int)] 5))
                have hn1 := Bs.new1 wr 5 (.int .u8 (x.toNat : Int)) x rfl
                have hsz : (wasL ps1 k).length + [x].length ≤ 140737488355328 := by rw [wasL_length]; simp; omega
                have hz := hb'.size
                obtain ⟨pa, pc, hv, -⟩ := hw'.bs.shape
                rw [wasL_length] at hv
                subst hv
                have H2 := Lib.hid hx
                clear hw hb hx
                go_wp2_with fail
                refine ST.mono ?_
                rintro e w6 ⟨rfl, rfl⟩
                clear ST c1
                go_wp2_with (at_builtin; refine wpList_append_bs bt rfl (.tmp 99) (.tmp 106) rfl wc.heap.size rfl rfl hw' hn1 hsz hz ?_; intro v3 w3 o3 g3)
                have b3 := below_own hb' hw' g3
                rw [H2.out, ← wasL_succ] at o3
                have H3 := Lib.hid (And.intro o3 b3)
                clear hw' hb' hn1 hsz hz o3 b3 g3
                go_roundw
                case rel => exact ⟨k + 1, by omega, by go_num, H3.out.1, H3.out.2⟩
                case measure => simp [intOf]; omega
              · obtain rfl : k = N := by omega
                have hil2 : ¬ (k : Int) < (k : Int) := by omega
                obtain ⟨hon2, hsl2, hm2⟩ := HM.out
                replace hm2 := hm2.later hb
                obtain ⟨pw, cw, hwv, -⟩ := hw.bs.shape
                rw [wasL_length] at hwv
                subst hwv
                have hwb : Bsf wr S2 (.slice pw k cw) (wasL ps1 k) := Bsf.fresh hw.bs fun q hq hs => by
                  have h1 := HM.out.2.2.dz.tr.lt q hs
                  have h2 := (World.ownsRow.lt hw q hq).1
                  omega
                have HM2 := Lib.hid (And.intro hon2 (And.intro hsl2 (And.intro hm2 hwb)))
                have c0 := hm2.box.cell 0
                clear hon2 hsl2 hm2 hwb hw hb HM
                go_upto_if 110 with fail
                clear c0
                go_cut [16, 17] from 30 to 211 (fun t16 t17 wy => ∃ r5 c5, t16 = .int .i64 r5 ∧ t17 = err c5 ∧ FullTo w1 wr xb tb db pb k n ps1 root prs (if cv = true then cutP prs s.key else putP prs s.key s.val) S2 r5 c5 wy)
                case first => as_aux_lemma =>
                  obtain ⟨hon2, hsl2, hm2, hwb⟩ := HM2.out
                  have hd1 : Below wr.heap.size wr wr.drew := (Below.refl _ _).drew
                  have T1 : wr.drew.cell? ⟨xb, 2, none⟩ = some (ptr tb) := hm2.dz.cel.cell 2
                  rcases cv with _ | _
                  · as_aux_lemma =>
                    have T2 : wr.drew.cell? ⟨bx, 1, none⟩ = some (.slice ka kn kc) := hm2.box.cell 1
                    have T3 : wr.drew.cell? ⟨bx, 2, none⟩ = some (.slice va vn vc) := hm2.box.cell 2
                    have HX := Lib.hid (fun (W : World) (hW : W.cell? ⟨xb, 2, none⟩ = some (ptr tb) ∧ W.cell? ⟨bx, 1, none⟩ = some (.slice ka kn kc) ∧ W.cell? ⟨bx, 2, none⟩ = some (.slice va vn vc)) => hW)
                    have PT := dz_put (hm2.dz.later hd1) hon2 hsl2 (by omega) ((hm2.dz.later hd1).old HK.out.1) ((hm2.dz.later hd1).old HK.out.2) HY.out.1 HY.out.2 (by have := HP.out.2.1; omega)
                    have HD1 := Lib.hid hd1
                    clear hon2 hsl2 hm2 hwb hd1
                    go_wp2
                    refine region_till 99 (fun W => W.cell? ⟨xb, 2, none⟩ = some (ptr tb) ∧ W.cell? ⟨bx, 1, none⟩ = some (.slice ka kn kc) ∧ W.cell? ⟨bx, 2, none⟩ = some (.slice va vn vc)) (by kernel_rfl) ⟨T1, T2, T3⟩ (fun hS => ?_)
                    clear T1 T2 T3
                    refine take_till (i := 0) (some 124) (ptr xb) rfl rfl (by kernel_rfl) (by kernel_rfl) (by kernel_rfl) (by kernel_rfl) (by decide) (fun _ _ _ h => h) (by rfl) (fun W hW => ?_) hS ?_
                    · have hx := HX.out W hW
                      clear hW
                      go_simp
                    simp only [Act.put, List.setIfInBounds_toArray, List.set_cons_zero, List.set_cons_succ]
                    refine take_till (i := 1) (some 125) (ptr xb) rfl rfl (by kernel_rfl) (by kernel_rfl) (by kernel_rfl) (by kernel_rfl) (by decide) (fun _ _ _ h => h) (by rfl) (fun W hW => ?_) hS ?_
                    · have hx := HX.out W hW
                      clear hW
                      go_simp
                    simp only [Act.put, List.setIfInBounds_toArray, List.set_cons_zero, List.set_cons_succ]
                    refine take_till (i := 2) (some 126) (.pointer (some ⟨xb, 2, none⟩)) rfl rfl (by kernel_rfl) (by kernel_rfl) (by kernel_rfl) (by kernel_rfl) (by decide) (fun _ _ _ h => h) (by rfl) (fun W hW => ?_) hS ?_
                    · have hx := HX.out W hW
                      clear hW
                      go_simp
                    simp only [Act.put, List.setIfInBounds_toArray, List.set_cons_zero, List.set_cons_succ]
                    refine take_till (i := 3) (some 127) (ptr tb) rfl rfl (by kernel_rfl) (by kernel_rfl) (by kernel_rfl) (by kernel_rfl) (by decide) (fun _ _ _ h => h) (by rfl) (fun W hW => ?_) hS ?_
                    · have hx := HX.out W hW
                      clear hW
                      go_simp
                    simp only [Act.put, List.setIfInBounds_toArray, List.set_cons_zero, List.set_cons_succ]
                    refine take_till (i := 4) (some 128) (.int .i64 root) rfl rfl (by kernel_rfl) (by kernel_rfl) (by kernel_rfl) (by kernel_rfl) (by decide) (fun _ _ _ h => h) (by rfl) (fun W hW => ?_) hS ?_
                    · have hx := HX.out W hW
                      clear hW
                      go_simp
                    simp only [Act.put, List.setIfInBounds_toArray, List.set_cons_zero, List.set_cons_succ]
                    refine take_till (i := 5) (some 129) (.pointer (some ⟨bx, 1, none⟩)) rfl rfl (by kernel_rfl) (by kernel_rfl) (by kernel_rfl) (by kernel_rfl) (by decide) (fun _ _ _ h => h) (by rfl) (fun W hW => ?_) hS ?_
                    · have hx := HX.out W hW
                      clear hW
                      go_simp
                    simp only [Act.put, List.setIfInBounds_toArray, List.set_cons_zero, List.set_cons_succ]
                    refine take_till (i := 6) (some 130) (.slice ka kn kc) rfl rfl (by kernel_rfl) (by kernel_rfl) (by kernel_rfl) (by kernel_rfl) (by decide) (fun _ _ _ h => h) (by rfl) (fun W hW => ?_) hS ?_
                    · have hx := HX.out W hW
                      clear hW
                      go_simp
                    simp only [Act.put, List.setIfInBounds_toArray, List.set_cons_zero, List.set_cons_succ]
                    refine take_till (i := 7) (some 131) (.pointer (some ⟨bx, 2, none⟩)) rfl rfl (by kernel_rfl) (by kernel_rfl) (by kernel_rfl) (by kernel_rfl) (by decide) (fun _ _ _ h => h) (by rfl) (fun W hW => ?_) hS ?_
                    · have hx := HX.out W hW
                      clear hW
                      go_simp
                    simp only [Act.put, List.setIfInBounds_toArray, List.set_cons_zero, List.set_cons_succ]
                    refine take_till (i := 8) (some 132) (.slice va vn vc) rfl rfl (by kernel_rfl) (by kernel_rfl) (by kernel_rfl) (by kernel_rfl) (by decide) (fun _ _ _ h => h) (by rfl) (fun W hW => ?_) hS ?_
                    · have hx := HX.out W hW
                      clear hW
                      go_simp
                    simp only [Act.put, List.setIfInBounds_toArray, List.set_cons_zero, List.set_cons_succ]
                    refine next_till 9 (by kernel_rfl) rfl (fun Kx hK => ?_)
                    go_simp
                    refine PT.mono ?_
                    rintro e w6 ⟨r5, c5, rfl, hto⟩
                    clear PT
                    have T4 := hto.cells (HM2.out.2.2.1.dz.cel) (HM2.out.2.2.1.dz.xs) (HM2.out.2.2.1.box) (HM2.out.2.2.1.nob)
                    refine hK.out _ _ (fun _ => T4) ?_
                    clear hK Kx
                    replace hS := T4
                    have H6 := Lib.hid (hto.back HD1.out)
                    clear hto T4
                    refine take_till (i := 10) (some 123) (.tuple #[.int .i64 r5, err c5]) rfl rfl (by kernel_rfl) (by kernel_rfl) (by kernel_rfl) (by kernel_rfl) (by decide) (fun _ _ _ h => h) (by rfl) (fun W hW => ?_) hS ?_
                    · have hx := HX.out W hW
                      clear hW
                      go_simp
                    simp only [Act.put, List.setIfInBounds_toArray, List.set_cons_zero, List.set_cons_succ]
                    refine take_till (i := 11) (some 134) (.int .i64 r5) rfl rfl (by kernel_rfl) (by kernel_rfl) (by kernel_rfl) (by kernel_rfl) (by decide) (fun _ _ _ h => h) (by rfl) (fun W hW => ?_) hS ?_
                    · have hx := HX.out W hW
                      clear hW
                      go_simp
                    simp only [Act.put, List.setIfInBounds_toArray, List.set_cons_zero, List.set_cons_succ]
                    refine take_till (i := 12) (some 135) (err c5) rfl rfl (by kernel_rfl) (by kernel_rfl) (by kernel_rfl) (by kernel_rfl) (by decide) (fun _ _ _ h => h) (by rfl) (fun W hW => ?_) hS ?_
                    · have hx := HX.out W hW
                      clear hW
                      go_simp
                    simp only [Act.put, List.setIfInBounds_toArray, List.set_cons_zero, List.set_cons_succ]
                    refine take_till (i := 13) (some 16) (.int .i64 r5) rfl rfl (by kernel_rfl) (by kernel_rfl) (by kernel_rfl) (by kernel_rfl) (by decide) (fun _ _ _ h => h) (by rfl) (fun W hW => ?_) hS ?_
                    · have hx := HX.out W hW
                      clear hW
                      go_simp
                    simp only [Act.put, List.setIfInBounds_toArray, List.set_cons_zero, List.set_cons_succ]
                    refine take_till (i := 14) (some 17) (err c5) rfl rfl (by kernel_rfl) (by kernel_rfl) (by kernel_rfl) (by kernel_rfl) (by decide) (fun _ _ _ h => h) (by rfl) (fun W hW => ?_) hS ?_
                    · have hx := HX.out W hW
                      clear hW
                      go_simp
                    simp only [Act.put, List.setIfInBounds_toArray, List.set_cons_zero, List.set_cons_succ]
                    refine done_till (by kernel_rfl) ?_ _
                    clear hS HX
                    go_wp2_with fail
                    go_meet
                    case rel => exact ⟨r5, c5, rfl, rfl, H6.out⟩
                  · as_aux_lemma =>
                    have T2 : wr.drew.cell? ⟨bx, 1, none⟩ = some (.slice ka kn kc) := hm2.box.cell 1
                    have HX := Lib.hid (fun (W : World) (hW : W.cell? ⟨xb, 2, none⟩ = some (ptr tb) ∧ W.cell? ⟨bx, 1, none⟩ = some (.slice ka kn kc)) => hW)
                    have CU := dz_cut (hm2.dz.later hd1) hon2 hsl2 (by omega) ((hm2.dz.later hd1).old HK.out.1) HY.out.1 (by have := HP.out.2.1; omega)
                    have HD1 := Lib.hid hd1
                    clear hon2 hsl2 hm2 hwb hd1
                    go_wp2
                    refine region_till 99 (fun W => W.cell? ⟨xb, 2, none⟩ = some (ptr tb) ∧ W.cell? ⟨bx, 1, none⟩ = some (.slice ka kn kc)) (by kernel_rfl) ⟨T1, T2⟩ (fun hS => ?_)
                    clear T1 T2
                    refine take_till (i := 0) (some 112) (ptr xb) rfl rfl (by kernel_rfl) (by kernel_rfl) (by kernel_rfl) (by kernel_rfl) (by decide) (fun _ _ _ h => h) (by rfl) (fun W hW => ?_) hS ?_
                    · have hx := HX.out W hW
                      clear hW
                      go_simp
                    simp only [Act.put, List.setIfInBounds_toArray, List.set_cons_zero, List.set_cons_succ]
                    refine take_till (i := 1) (some 113) (ptr xb) rfl rfl (by kernel_rfl) (by kernel_rfl) (by kernel_rfl) (by kernel_rfl) (by decide) (fun _ _ _ h => h) (by rfl) (fun W hW => ?_) hS ?_
                    · have hx := HX.out W hW
                      clear hW
                      go_simp
                    simp only [Act.put, List.setIfInBounds_toArray, List.set_cons_zero, List.set_cons_succ]
                    refine take_till (i := 2) (some 114) (.pointer (some ⟨xb, 2, none⟩)) rfl rfl (by kernel_rfl) (by kernel_rfl) (by kernel_rfl) (by kernel_rfl) (by decide) (fun _ _ _ h => h) (by rfl) (fun W hW => ?_) hS ?_
                    · have hx := HX.out W hW
                      clear hW
                      go_simp
                    simp only [Act.put, List.setIfInBounds_toArray, List.set_cons_zero, List.set_cons_succ]
                    refine take_till (i := 3) (some 115) (ptr tb) rfl rfl (by kernel_rfl) (by kernel_rfl) (by kernel_rfl) (by kernel_rfl) (by decide) (fun _ _ _ h => h) (by rfl) (fun W hW => ?_) hS ?_
                    · have hx := HX.out W hW
                      clear hW
                      go_simp
                    simp only [Act.put, List.setIfInBounds_toArray, List.set_cons_zero, List.set_cons_succ]
                    refine take_till (i := 4) (some 116) (.int .i64 root) rfl rfl (by kernel_rfl) (by kernel_rfl) (by kernel_rfl) (by kernel_rfl) (by decide) (fun _ _ _ h => h) (by rfl) (fun W hW => ?_) hS ?_
                    · have hx := HX.out W hW
                      clear hW
                      go_simp
                    simp only [Act.put, List.setIfInBounds_toArray, List.set_cons_zero, List.set_cons_succ]
                    refine take_till (i := 5) (some 117) (.pointer (some ⟨bx, 1, none⟩)) rfl rfl (by kernel_rfl) (by kernel_rfl) (by kernel_rfl) (by kernel_rfl) (by decide) (fun _ _ _ h => h) (by rfl) (fun W hW => ?_) hS ?_
                    · have hx := HX.out W hW
                      clear hW
                      go_simp
                    simp only [Act.put, List.setIfInBounds_toArray, List.set_cons_zero, List.set_cons_succ]
                    refine take_till (i := 6) (some 118) (.slice ka kn kc) rfl rfl (by kernel_rfl) (by kernel_rfl) (by kernel_rfl) (by kernel_rfl) (by decide) (fun _ _ _ h => h) (by rfl) (fun W hW => ?_) hS ?_
                    · have hx := HX.out W hW
                      clear hW
                      go_simp
                    simp only [Act.put, List.setIfInBounds_toArray, List.set_cons_zero, List.set_cons_succ]
                    refine next_till 7 (by kernel_rfl) rfl (fun Kx hK => ?_)
                    go_simp
                    refine CU.mono ?_
                    rintro e w6 ⟨r5, b5, c5, rfl, hto⟩
                    clear CU
                    have T4 := hto.cells (HM2.out.2.2.1.dz.cel) (HM2.out.2.2.1.dz.xs) (HM2.out.2.2.1.box) (HM2.out.2.2.1.nob)
                    have T5 : w6.cell? ⟨xb, 2, none⟩ = some (ptr tb) ∧ w6.cell? ⟨bx, 1, none⟩ = some (.slice ka kn kc) := ⟨T4.1, T4.2.1⟩
                    refine hK.out _ _ (fun _ => T5) ?_
                    clear hK Kx
                    replace hS := T5
                    have H6 := Lib.hid (hto.back HD1.out)
                    clear hto T4 T5
                    refine take_till (i := 8) (some 111) (.tuple #[.int .i64 r5, .bool b5, err c5]) rfl rfl (by kernel_rfl) (by kernel_rfl) (by kernel_rfl) (by kernel_rfl) (by decide) (fun _ _ _ h => h) (by rfl) (fun W hW => ?_) hS ?_
                    · have hx := HX.out W hW
                      clear hW
                      go_simp
                    simp only [Act.put, List.setIfInBounds_toArray, List.set_cons_zero, List.set_cons_succ]
                    refine take_till (i := 9) (some 120) (.int .i64 r5) rfl rfl (by kernel_rfl) (by kernel_rfl) (by kernel_rfl) (by kernel_rfl) (by decide) (fun _ _ _ h => h) (by rfl) (fun W hW => ?_) hS ?_
                    · have hx := HX.out W hW
                      clear hW
                      go_simp
                    simp only [Act.put, List.setIfInBounds_toArray, List.set_cons_zero, List.set_cons_succ]
                    refine take_till (i := 10) (some 121) (.bool b5) rfl rfl (by kernel_rfl) (by kernel_rfl) (by kernel_rfl) (by kernel_rfl) (by decide) (fun _ _ _ h => h) (by rfl) (fun W hW => ?_) hS ?_
                    · have hx := HX.out W hW
                      clear hW
                      go_simp
                    simp only [Act.put, List.setIfInBounds_toArray, List.set_cons_zero, List.set_cons_succ]
                    refine take_till (i := 11) (some 122) (err c5) rfl rfl (by kernel_rfl) (by kernel_rfl) (by kernel_rfl) (by kernel_rfl) (by decide) (fun _ _ _ h => h) (by rfl) (fun W hW => ?_) hS ?_
                    · have hx := HX.out W hW
                      clear hW
                      go_simp
                    simp only [Act.put, List.setIfInBounds_toArray, List.set_cons_zero, List.set_cons_succ]
                    refine take_till (i := 12) (some 16) (.int .i64 r5) rfl rfl (by kernel_rfl) (by kernel_rfl) (by kernel_rfl) (by kernel_rfl) (by decide) (fun _ _ _ h => h) (by rfl) (fun W hW => ?_) hS ?_
                    · have hx := HX.out W hW
                      clear hW
                      go_simp
                    simp only [Act.put, List.setIfInBounds_toArray, List.set_cons_zero, List.set_cons_succ]
                    refine take_till (i := 13) (some 17) (err c5) rfl rfl (by kernel_rfl) (by kernel_rfl) (by kernel_rfl) (by kernel_rfl) (by decide) (fun _ _ _ h => h) (by rfl) (fun W hW => ?_) hS ?_
                    · have hx := HX.out W hW
                      clear hW
                      go_simp
                    simp only [Act.put, List.setIfInBounds_toArray, List.set_cons_zero, List.set_cons_succ]
                    refine done_till (by kernel_rfl) ?_ _
                    clear hS HX
                    go_wp2_with fail
                    go_meet
                    case rel => exact ⟨r5, c5, rfl, rfl, H6.out⟩
                case rest =>
                  obtain ⟨r5, c5, rfl, rfl, hto⟩ := hcut
                  obtain ⟨D3, ps3, root3, prs3, pgs3, S3, st3, hd3, hend⟩ := hto
                  obtain ⟨hon2, hsl2, hm2, hwb⟩ := HM2.out
                  have hb3 := hm2.box.only st3.only hm2.nob
                  have H3 := Lib.hid (And.intro hd3 (And.intro hb3 (And.intro (hm2.rd.step st3) (And.intro (hwb.step st3) hend))))
                  clear hon2 hsl2 hm2 hwb st3 hd3 hend hb3
                  go_upto_if 137 with fail
                  go_cut [9, 10, 18] from 30 to 211 (fun t9 t10 _ wz => ∃ root4 a4 n4 c4 D4 prs4 pgs4 ps4 S4, t9 = .int .i64 root4 ∧ t10 = .slice a4 n4 c4 ∧ prs4.length ≤ r + 1 ∧ Dz w1 wz xb tb db pb k (n + 13) D4 ps4 root4 prs4 pgs4 S4 ∧ Rd kdPr wz S4 (.slice a4 n4 c4) prs4 ∧ ((c5 ≠ 8 ∧ D4.on = true) ∨ (c5 = 8 ∧ D4.on = false ∧ Sure D4 pgs4)))
                  case first => as_aux_lemma =>
                    obtain ⟨hd3, hb3, ha3, hw3, hend⟩ := H3.out
                    rcases hend with ⟨rfl, rfl, hp3, hon3⟩ | hend
                    · have c0 := hb3.cell 0
                      have c1 := hb3.cell 1
                      have c2 := hb3.cell 2
                      have hfew := HP.out.1
                      rcases cv with _ | _
                      · rw [if_neg (by decide)] at hp3
                        have PU := rput_any wc ha3 HM2.out.2.2.1.dz.rise (hd3.old HK.out.1) (hd3.old HK.out.2) (fun q hq => hd3.tr.lt q hq) (by omega)
                        have HQ := Lib.hid (And.intro hp3 hon3)
                        clear hd3 hb3 ha3 hw3 hp3 hon3 hfew
                        go_wp2_with fail
                        refine PU.mono ?_
                        rintro e w6 ⟨v6, rfl, hv6, hb6⟩
                        clear PU c0 c1 c2
                        obtain ⟨a6, n6, c6, rfl⟩ : ∃ a n c, v6 = .slice a n c := (fun ⟨a, c, h, _⟩ => ⟨a, _, c, h⟩) hv6.shape
                        have H6 := Lib.hid (And.intro hv6 hb6)
                        clear hv6 hb6
                        go_wp2_with fail
                        go_meet
                        case rel => exact ⟨root3, a6, n6, c6, D3, prs3, pgs3, ps3, S3, rfl, rfl, by rw [HQ.out.1]; have := few_put prs s.key s.val; have := HP.out.1; omega, H3.out.1.later H6.out.2, by rw [HQ.out.1]; exact H6.out.1, .inl ⟨by decide, HQ.out.2⟩⟩
                      · rw [if_pos rfl] at hp3
                        have CU := rcut_any wc ha3 (hd3.old HK.out.1).1 (fun q hq => hd3.tr.lt q hq) (by omega)
                        have HQ := Lib.hid (And.intro hp3 hon3)
                        clear hd3 hb3 ha3 hw3 hp3 hon3 hfew c2
                        go_wp2_with fail
                        refine CU.mono ?_
                        rintro e w6 ⟨v6, rfl, hv6, hb6⟩
                        clear CU c0 c1
                        obtain ⟨a6, n6, c6, rfl⟩ : ∃ a n c, v6 = .slice a n c := (fun ⟨a, c, h, _⟩ => ⟨a, _, c, h⟩) hv6.shape
                        have H6 := Lib.hid (And.intro hv6 hb6)
                        clear hv6 hb6
                        go_wp2_with fail
                        go_meet
                        case rel => exact ⟨root3, a6, n6, c6, D3, prs3, pgs3, ps3, S3, rfl, rfl, by rw [HQ.out.1]; have := few_cut prs s.key; have := HP.out.1; omega, H3.out.1.later H6.out.2, by rw [HQ.out.1]; exact H6.out.1, .inl ⟨by decide, HQ.out.2⟩⟩
                    · have HE := Lib.hid hend
                      have hne : ¬ c5 = 0 := by rcases hend with ⟨rfl, _⟩ | ⟨rfl, _⟩ <;> decide
                      clear hd3 hb3 ha3 hw3 hend
                      go_upto_region 34 with fail
                      go_cut [160] from 30 to 211 (fun t160 wz => t160 = .bool false ∧ wz = wc)
                      case first =>
                        rcases HE.out with ⟨rfl, hfr, -⟩ | ⟨rfl, -⟩
                        · have hfi : ¬ (17 : Int) ≤ (freeP ps1 : Int) := by omega
                          clear hfr
                          go_wp2_with fail
                          go_meet
                          case rel => exact ⟨rfl, rfl⟩
                        · go_wp2_with fail
                          go_meet
                          case rel => exact ⟨rfl, rfl⟩
                      case rest =>
                        obtain ⟨rfl, rfl⟩ := hcut
                        clear hne
                        have HG : ps3 = ps1 ∧ root3 = root ∧ prs3 = prs ∧ ((c5 ≠ 8 ∧ D3.on = true) ∨ (c5 = 8 ∧ D3.on = false ∧ Sure D3 pgs3)) := by
                          rcases HE.out with ⟨h0, _, h1, h2, h3, h4⟩ | ⟨h0, h1, h2, h3, h4, h5⟩
                          · exact ⟨h1, h2, h3, .inl ⟨by rw [h0]; decide, h4⟩⟩
                          · exact ⟨h1, h2, h3, .inr ⟨h0, h4, h5⟩⟩
                        have HW : Dz w1 wc xb tb db pb k (n + 13) D3 ps1 root prs pgs3 S3 ∧ Rd kdPr wc S3 (.slice aa an ac) prs ∧ Bsf wc S3 (.slice pw k cw) (wasL ps1 k) ∧ ((c5 ≠ 8 ∧ D3.on = true) ∨ (c5 = 8 ∧ D3.on = false ∧ Sure D3 pgs3)) := by
                          obtain ⟨h1, h2, h3, h4⟩ := HG
                          have h5 := H3.out.1
                          rw [h1, h2, h3] at h5
                          exact ⟨h5, H3.out.2.2.1, H3.out.2.2.2.1, h4⟩
                        have HZ := Lib.hid HW
                        clear HG HW HE
                        go_wp2
                        go_loopw [18] (fun kv wr3 => ∃ j : Nat, j ≤ k ∧ kv = .int .i64 (j : Int) ∧ Below wc.heap.size wc wr3) (fun kv _ => k - (intOf kv).toNat)
                        case atStart => exact ⟨0, Nat.zero_le _, rfl, Below.refl _ _⟩
                        case round =>
                          obtain ⟨j, hj, rfl, hb⟩ := hrel
                          by_cases hlt3 : j < k
                          · obtain ⟨hd3, -, hw3, -⟩ := HZ.out
                            have hd := hd3.later hb
                            have ST := fun m => (hd.later (below_drewN (Below.refl wr.heap.size wr) m)).stateB j
                            have bk := hw3.1.below hb
                            obtain ⟨gb, go, cap, e0, hle, hblt, hcell⟩ := bk.open (by rw [wasL_length]; omega)
                            rw [wasL_length] at e0
                            simp only [Value.slice.injEq] at e0
                            obtain ⟨rfl, -, rfl⟩ := e0
                            have cw := hcell j _ (wasL_get hlt3)
                            obtain ⟨x, hx⟩ : ∃ x, x = stB ps1 j := ⟨_, rfl⟩
                            rw [← hx] at cw
                            simp only [← hx] at ST
                            have c1 := hd.cel.cell 1
                            have hil3 : (j : Int) < (k : Int) := by omega
                            have hj0 : (0 : Int) ≤ (j : Int) := by omega
                            have K2 := Lib.hid ST
                            have HB := Lib.hid hb
                            clear hd3 hw3 hd ST bk hle hblt hcell hx hb
                            go_wp2_with fail
                            go_quiet ((go_at_call 33; exact quiet_left (K2.out _)))
                            go_wp2
                            go_roundw
                            case rel => exact ⟨j + 1, by omega, by go_num, below_drewN HB.out _⟩
                            case measure => simp [intOf]; omega
                          · obtain rfl : j = k := by omega
                            have hil3 : ¬ (j : Int) < (j : Int) := by omega
                            have HB := Lib.hid hb
                            clear hb
                            go_wp2_with fail
                            go_meet
                            case rel =>
                              obtain ⟨hd3, ha3, -, hfin⟩ := HZ.out
                              exact ⟨root, aa, an, ac, D3, prs, pgs3, ps1, S3, rfl, rfl, by have := HP.out.1; omega, hd3.later HB.out, ha3.step (Step.of_below HB.out S3), hfin⟩
                  case rest =>
                    obtain ⟨root4, a4, n4, c4, D4, prs4, pgs4, ps4, S4, rfl, rfl, hl4, hd4, ha4, hfin⟩ := hcut
                    have H4 := Lib.hid (And.intro hd4 (And.intro ha4 (And.intro hl4 hfin)))
                    clear hd4 ha4 hl4 hfin H3 HM2
                    go_upto_region 41 with fail
                    go_cut [192] from 30 to 211 (fun t192 wz => t192 = .bool false ∧ ∃ D5 S5, D5.on = true ∧ Dz w1 wz xb tb db pb k (n + 13) D5 ps4 root4 prs4 pgs4 S5 ∧ Rd kdPr wz S5 (.slice a4 n4 c4) prs4)
                    case first => as_aux_lemma =>
                      obtain ⟨hd4, ha4, hl4, hfin⟩ := H4.out
                      rcases hfin with ⟨h8, hon⟩ | ⟨rfl, hoff, hsu⟩
                      · have HO := Lib.hid hon
                        clear hd4 ha4 hl4 hon
                        go_wp2_with fail
                        go_meet
                        case rel => exact ⟨rfl, D4, S4, HO.out, H4.out.1, H4.out.2.1⟩
                      · have hc0 := hd4.cel.cell 0
                        obtain ⟨q2, hq2⟩ : ∃ q2, q2 = Int.tdiv (r : Int) 2 := ⟨_, rfl⟩
                        have hq3 : 0 ≤ q2 ∧ q2 ≤ 1000 := by rw [hq2, Int.tdiv_eq_ediv_of_nonneg (by omega)]; omega
                        have hba : Below wc.heap.size wc (wc.alloc (.cells #[.int .i64 (r : Int), .int .i64 ((r : Int) + 1), .int .i64 q2] 3)) := (Below.refl _ _).alloc (Nat.le_refl _) _
                        have IV := iv_three wc (r : Int) ((r : Int) + 1) q2 (by omega) (by omega) hq3
                        have ON := dz_on (hd4.later hba) hoff hsu (by have := HP.out.2.1; omega) IV (fun q hq hs => by cases hq; exact Nat.lt_irrefl _ (hd4.tr.lt _ hs))
                        have q4 := hq2.symm
                        have h1q := hq3.1
                        have h2q := hq3.2
                        have hc1 : (wc.alloc (.cells #[.int .i64 (r : Int), .int .i64 ((r : Int) + 1), .int .i64 q2] 3)).cell? ⟨xb, 0, none⟩ = some (ptr db) := (hd4.later hba).cel.cell 0
                        have HB := Lib.hid hba
                        clear hd4 ha4 hl4 hoff hsu hq2 hq3 hba IV
                        go_wp2_with fail
                        refine ON.mono ?_
                        rintro e w6 ⟨rfl, S6, st6, hd6⟩
                        clear ON hc0 hc1
                        have H6 := Lib.hid (And.intro st6 hd6)
                        clear st6 hd6
                        go_wp2_with fail
                        go_meet
                        case rel => exact ⟨rfl, _, S6, H6.out.2.on, H6.out.2.dz, (H4.out.2.1.step (Step.of_below HB.out S4)).step H6.out.1⟩
                    case rest =>
                      obtain ⟨rfl, D5, S5, hon5, hd5, ha5⟩ := hcut
                      have AR := dz_arm hd5 hon5 (-1) (by decide)
                      have c0 := hd5.cel.cell 0
                      have H5 := Lib.hid ha5
                      clear hon5 hd5 ha5
                      go_wp2_with fail
                      refine AR.mono ?_
                      rintro e w6 ⟨rfl, S6, st6, hd6⟩
                      clear AR c0
                      have hx6 := hd6.dx rfl (show max (-1 : Int) (-1) = -1 by decide)
                      have ha6 := H5.out.step st6
                      have LA := lhas_any (hx6.cel.cell 2) hx6.tr hx6.on hx6.hold.rt hx6.few ha6
                      rw [decide_eq_true rfl] at LA
                      have H6 := Lib.hid (And.intro hx6 ha6)
                      clear st6 hd6 hx6 ha6
                      go_wp2_with fail
                      refine LA.mono ?_
                      rintro e w7 ⟨rfl, hb7⟩
                      clear LA
                      have LH := lheld_any (H6.out.1.later hb7)
                      have H7 := Lib.hid hb7
                      clear hb7
                      go_wp2_with fail
                      refine LH.mono ?_
                      rintro e w8 ⟨rfl, hb8⟩
                      clear LH
                      have H8 := Lib.hid (H7.out.trans (hb8.mono H7.out.size))
                      clear hb8
                      go_wp2
                      go_roundw
                      case rel => exact ⟨r + 1, by omega, by go_num, root4, prs4, _, ps4, pgs4, S6, n + 13, rfl, H6.out.1.later H8.out, H6.out.2.step (Step.of_below H8.out S6), H4.out.2.2.1, by have := HP.out.2.1; omega⟩
                      case measure => simp [intOf]; omega
      · obtain rfl : r = ln := by omega
        have hil : ¬ (r : Int) < (r : Int) := by omega
        have HB := Lib.hid (H1.out.1.trans (hd.bw.mono H1.out.1.size))
        clear hl hln hb1 hfew hd hav hpl hn
        go_wp2_with fail
        refine (tworks_any _).mono ?_
        rintro e w8 ⟨rfl, hb8⟩
        have H8 := Lib.hid hb8
        clear hb8
        go_wp2
        go_ret
        exact ⟨rfl, HB.out.trans (H8.out.mono HB.out.size)⟩
  · clear hfew
    have WK := tworks_any w1
    have H1 := Lib.hid hb1
    clear hb1
    go_wp2_with fail
    refine WK.mono ?_
    rintro e w3 ⟨rfl, hb3⟩
    clear WK
    go_wp2
    go_ret
    exact ⟨rfl, H1.out.trans (hb3.mono H1.out.size)⟩
end Go.Proofs.YtgekeemhbnhelaaGreat
