/- The walk of CrcSwaps: it returns true and writes nothing that was there; no condition. -/
import Derived.Test.YtgedaoodldohkaaCrcAdds
import Derived.Deep.CutBlock
import Derived.Deep.DeepCutAuto
namespace Go.Proofs.Ytgedaoodldohkaa
open Go.RowKit

theorem bv_nat (x : UInt8) : bv x = .int .u8 (x.toNat : Int) := rfl

theorem sum_swap (a c b : List UInt8) : sumN (a ++ b) ^^^ sumN (c ++ b) = steps (8 * b.length) (sumN a ^^^ sumN c) := by
  rw [sumN_append, sumN_append]
  unfold moreN
  rw [notN_xor, foldN_xor, notN_xor]

theorem sum_swaps (a c b d : List UInt8) (h : d.length = b.length) : sumN (a ++ b) ^^^ sumN (c ++ b) = sumN (a ++ d) ^^^ sumN (c ++ d) := by
  rw [sum_swap, sum_swap, h]

theorem sum_just (a c b : List UInt8) : sumN a = sumN c ↔ sumN (a ++ b) = sumN (c ++ b) := by
  constructor
  · intro h
    rw [sumN_append, sumN_append, h]
  · intro h
    have h1 := sum_swap a c b
    rw [h, Nat.xor_self] at h1
    exact xor_zero_eq (steps_zero _ (Nat.xor_lt_two_pow (n := 32) (sumN_lt a) (sumN_lt c)) h1.symm)

theorem int_eq_true {a b : Nat} (h : a = b) : ((a : Int) == (b : Int)) = true := by subst h; simp
theorem int_eq_false {a b : Nat} (h : ¬ a = b) : ((a : Int) == (b : Int)) = false := by rw [beq_eq_false_iff_ne]; omega

set_option maxRecDepth 100000 in
set_option maxHeartbeats 2000000 in
theorem crcSwaps_go {a t b o : Value} {la lt lb lo : List UInt8} (w : World) (ha : Bs w a la) (ht : Bs w t lt) (hb : Bs w b lb) (ho : Bs w o lo)
    (n1 : la.length ≤ 8192) (n2 : lb.length ≤ 8192) (n3 : lt.length ≤ 8192) (n4 : lo.length ≤ 8192) :
    Calls Try.prog 7 #[a, t, b, o] w (Yes w) := by
  obtain ⟨pa, ca, rfl, ha⟩ := ha.shape
  obtain ⟨pt, ct, rfl, ht⟩ := ht.shape
  obtain ⟨pb, cb, rfl, hb⟩ := hb.shape
  obtain ⟨po, co, rfl, ho⟩ := ho.shape
  go_enter Try.func7, Try.ntmps7
  go_wp2_with fail
  refine (vast_no _ ha n1).mono ?_
  rintro e w1 ⟨rfl, rfl⟩
  go_wp2_with fail
  refine (vast_no _ hb n2).mono ?_
  rintro e w1 ⟨rfl, rfl⟩
  go_wp2_with fail
  refine (vast_no _ ht n3).mono ?_
  rintro e w1 ⟨rfl, rfl⟩
  go_wp2_with fail
  refine (vast_no _ ho n4).mono ?_
  rintro e w1 ⟨rfl, rfl⟩
  go_wp2_with fail
  refine (copied_any _ ha (by omega)).mono ?_
  rintro e w1 ⟨v1, rfl, o1, b1⟩
  obtain ⟨p1, c1, rfl, _⟩ := o1.bs.shape
  go_upto_block 0 with fail
  go_cut [10] from 34 to 57 (fun _ wx => ∃ lc : List UInt8, lc.length = la.length ∧ Ow wx w.heap.size 5 (.slice p1 la.length c1) lc ∧ Below w.heap.size w wx)
  case first =>
    go_wp2_with fail
    go_loopw [10] (fun i wr => ∃ r : Nat, r ≤ la.length ∧ r ≤ lt.length ∧ i = .int .i64 r ∧ (∃ lc : List UInt8, lc.length = la.length ∧ Ow wr w.heap.size 5 (.slice p1 la.length c1) lc) ∧ Below w.heap.size w wr) (fun i _ => la.length - (intOf i).toNat)
    case atStart => exact ⟨0, Nat.zero_le _, Nat.zero_le _, rfl, ⟨la, rfl, o1⟩, b1⟩
    case round =>
      obtain ⟨r, hr, hr2, rfl, ⟨lc, hlc, hc⟩, hbr⟩ := hrel
      by_cases hlt : r < la.length
      · by_cases hlt2 : r < lt.length
        · obtain ⟨y, hy⟩ : ∃ y, lt[r]? = some y := ⟨_, List.getElem?_eq_getElem hlt2⟩
          obtain ⟨bt0, ot0, ct', et, _, lt0, hct⟩ := ht.open (by omega)
          simp only [Value.slice.injEq] at et
          obtain ⟨rfl, _, rfl⟩ := et
          have d2 := (hbr.cell (p := ⟨bt0, ot0 + r, none⟩) (by exact lt0)).trans (hct r y hy)
          obtain ⟨g, cap, eg, hg⟩ := hc.form (by omega)
          simp only [Value.slice.injEq] at eg
          obtain ⟨rfl, -, rfl⟩ := eg
          have hat := hc.at r (by omega)
          have d4 := hat.1
          have d5 := hat.2.1
          rw [bv_nat] at d4
          generalize lc[r]'(by omega) = x at *
          have i0 : (0 : Int) ≤ (r : Int) := by omega
          have i1 : (r : Int) < (la.length : Int) := by omega
          have i2 : (r : Int) < (lt.length : Int) := by omega
          have x1 := bxor_u8 x y
          have ev : Value.int .u8 ((x.toNat ^^^ y.toNat : Nat) : Int) = bv (x ^^^ y) := by simp [bv]
          have Hv := Lib.hid ev
          have HL := Lib.hid hlc
          clear ev hy hct hat hlc
          go_wp2_with fail
          go_still_tail 12, (by kernel_rfl)
          change wpList _ _ _ _ _ wr.drew
          have d5' : wr.drew.frozen? ⟨g, r, none⟩ = false := d5
          have d4' : wr.drew.cell? ⟨g, r, none⟩ = _ := d4
          have hc' : Ow wr.drew w.heap.size 5 (.slice (some ⟨g, 0, none⟩) la.length c1) lc := hc
          have hbr' : Below w.heap.size w wr.drew := below_drewN hbr 1
          clear d2 d4 d5 hc hbr
          generalize wr.drew = w2 at *
          go_wp2
          rw [Hv.out]
          go_roundw
          case rel =>
            exact ⟨r + 1, by omega, by omega, by go_num, ⟨_, by rw [List.length_set]; exact HL.out, hc'.set r _⟩, hbr'.setCell hg _⟩
          case measure => simp [intOf]; omega
        · go_wp2
          go_meet
          exact ⟨_, hlc, hc, hbr⟩
      · go_wp2
        go_meet
        exact ⟨_, hlc, hc, hbr⟩
  case rest =>
    obtain ⟨lc, hlc, hc, hbr⟩ := hcut
    obtain ⟨wx, rfl⟩ : ∃ wx, wx = wc := ⟨_, rfl⟩
    have nlc : lc.length ≤ 8192 := by omega
    have HL := Lib.hid hlc
    clear hlc o1 b1
    have hb2 := hb.below hbr
    go_wp2_with fail
    refine (copied_any _ hb2 (by omega)).mono ?_
    rintro e w2 ⟨v2, rfl, o2, b2⟩
    obtain ⟨p2, c2, rfl, hp2⟩ := o2.bs.shape
    clear hp2
    go_upto_block 2 with fail
    go_cut [12] from 60 to 78 (fun _ wy => ∃ ld : List UInt8, ld.length = lb.length ∧ Ow wy wx.heap.size 5 (.slice p2 lb.length c2) ld ∧ Below wx.heap.size wx wy)
    case first =>
      go_wp2_with fail
      go_loopw [12] (fun i wr => ∃ r : Nat, r ≤ lb.length ∧ r ≤ lo.length ∧ i = .int .i64 r ∧ (∃ ld : List UInt8, ld.length = lb.length ∧ Ow wr wx.heap.size 5 (.slice p2 lb.length c2) ld) ∧ Below wx.heap.size wx wr) (fun i _ => lb.length - (intOf i).toNat)
      case atStart => exact ⟨0, Nat.zero_le _, Nat.zero_le _, rfl, ⟨lb, rfl, o2⟩, b2⟩
      case round =>
        obtain ⟨r, hr, hr2, rfl, ⟨ld, hld, hd⟩, hbd⟩ := hrel
        by_cases hlt : r < lb.length
        · by_cases hlt2 : r < lo.length
          · obtain ⟨y, hy⟩ : ∃ y, lo[r]? = some y := ⟨_, List.getElem?_eq_getElem hlt2⟩
            have ho2 := (ho.below hbr).below hbd
            obtain ⟨bt0, ot0, ct', et, _, lt0, hct⟩ := ho2.open (by omega)
            simp only [Value.slice.injEq] at et
            obtain ⟨rfl, -, rfl⟩ := et
            have d2 := hct r y hy
            obtain ⟨g, cap, eg, hg⟩ := hd.form (by omega)
            simp only [Value.slice.injEq] at eg
            obtain ⟨rfl, -, rfl⟩ := eg
            have hat := hd.at r (by omega)
            have d4 := hat.1
            have d5 := hat.2.1
            generalize ld[r]'(by omega) = x at *
            have i0 : (0 : Int) ≤ (r : Int) := by omega
            have i1 : (r : Int) < (lb.length : Int) := by omega
            have i2 : (r : Int) < (lo.length : Int) := by omega
            have HLd := Lib.hid hld
            have Hv := Lib.hid (bv_nat y)
            clear hy hct hat hld
            go_wp2
            rw [← Hv.out]
            go_roundw
            case rel => exact ⟨r + 1, by omega, by omega, by go_num, ⟨_, by rw [List.length_set]; exact HLd.out, hd.set r _⟩, hbd.setCell hg _⟩
            case measure => simp [intOf]; omega
          · go_wp2
            go_meet
            exact ⟨_, hld, hd, hbd⟩
        · go_wp2
          go_meet
          exact ⟨_, hld, hd, hbd⟩
    case rest =>
      obtain ⟨ld, hld, hd, hbd⟩ := hcut
      obtain ⟨wy, rfl⟩ : ∃ wy, wy = wc := ⟨_, rfl⟩
      have nld : ld.length ≤ 8192 := by omega
      have HLd := Lib.hid hld
      have xa := (ha.below hbr).below hbd
      have xb := hb2.below hbd
      have xc := hc.bs.below hbd
      have xd := hd.bs
      have btot := hbr.trans (hbd.mono hbr.size)
      clear hld hb2 o2 b2 hc hd hbr hbd ha ht hb ho
      go_wp2_with fail
      refine (copied_any _ xa (by omega)).mono ?_
      rintro e wA1 ⟨vA1, rfl, oA1, bA1⟩
      have hy1 := xb.below bA1
      have hl1 : la.length + lb.length ≤ 140737488355328 := by omega
      have hz1 := bA1.size
      go_wp2_with (at_builtin; refine wpList_append_bs bt rfl _ _ rfl _ rfl rfl oA1 hy1 hl1 hz1 ?_; intro vB1 wB1 oB1 gB1)
      have bB1 := below_own bA1 oA1 gB1
      refine (sum_any _ oB1.bs).mono ?_
      rintro e w' ⟨rfl, rfl⟩
      replace xa := xa.below bB1
      replace xb := xb.below bB1
      replace xc := xc.below bB1
      replace xd := xd.below bB1
      replace btot := btot.trans (bB1.mono btot.size)
      clear hy1 hl1 hz1 gB1 oA1 bA1 oB1 bB1
      go_wp2_with fail
      refine (copied_any _ xc (by omega)).mono ?_
      rintro e wA2 ⟨vA2, rfl, oA2, bA2⟩
      have hy2 := xb.below bA2
      have hl2 : lc.length + lb.length ≤ 140737488355328 := by omega
      have hz2 := bA2.size
      go_wp2_with (at_builtin; refine wpList_append_bs bt rfl _ _ rfl _ rfl rfl oA2 hy2 hl2 hz2 ?_; intro vB2 wB2 oB2 gB2)
      have bB2 := below_own bA2 oA2 gB2
      refine (sum_any _ oB2.bs).mono ?_
      rintro e w' ⟨rfl, rfl⟩
      replace xa := xa.below bB2
      replace xb := xb.below bB2
      replace xc := xc.below bB2
      replace xd := xd.below bB2
      replace btot := btot.trans (bB2.mono btot.size)
      clear hy2 hl2 hz2 gB2 oA2 bA2 oB2 bB2
      go_wp2_with fail
      refine (copied_any _ xa (by omega)).mono ?_
      rintro e wA3 ⟨vA3, rfl, oA3, bA3⟩
      have hy3 := xd.below bA3
      have hl3 : la.length + ld.length ≤ 140737488355328 := by omega
      have hz3 := bA3.size
      go_wp2_with (at_builtin; refine wpList_append_bs bt rfl _ _ rfl _ rfl rfl oA3 hy3 hl3 hz3 ?_; intro vB3 wB3 oB3 gB3)
      have bB3 := below_own bA3 oA3 gB3
      refine (sum_any _ oB3.bs).mono ?_
      rintro e w' ⟨rfl, rfl⟩
      replace xa := xa.below bB3
      replace xb := xb.below bB3
      replace xc := xc.below bB3
      replace xd := xd.below bB3
      replace btot := btot.trans (bB3.mono btot.size)
      clear hy3 hl3 hz3 gB3 oA3 bA3 oB3 bB3
      go_wp2_with fail
      refine (copied_any _ xc (by omega)).mono ?_
      rintro e wA4 ⟨vA4, rfl, oA4, bA4⟩
      have hy4 := xd.below bA4
      have hl4 : lc.length + ld.length ≤ 140737488355328 := by omega
      have hz4 := bA4.size
      go_wp2_with (at_builtin; refine wpList_append_bs bt rfl _ _ rfl _ rfl rfl oA4 hy4 hl4 hz4 ?_; intro vB4 wB4 oB4 gB4)
      have bB4 := below_own bA4 oA4 gB4
      refine (sum_any _ oB4.bs).mono ?_
      rintro e w' ⟨rfl, rfl⟩
      replace xa := xa.below bB4
      replace xb := xb.below bB4
      replace xc := xc.below bB4
      replace xd := xd.below bB4
      replace btot := btot.trans (bB4.mono btot.size)
      clear hy4 hl4 hz4 gB4 oA4 bA4 oB4 bB4
      have y1 := x32 _ _ (sumN_lt (la ++ lb)) (sumN_lt (lc ++ lb))
      have y2 := x32 _ _ (sumN_lt (la ++ ld)) (sumN_lt (lc ++ ld))
      rw [← sum_swaps la lc lb ld HLd.out] at y2
      obtain ⟨B, hB1, hB2⟩ : ∃ B : Bool, ((sumN la : Int) == (sumN lc : Int)) = B ∧ ((sumN (la ++ lb) : Int) == (sumN (lc ++ lb) : Int)) = B := by
        by_cases h : sumN la = sumN lc
        · exact ⟨true, int_eq_true h, int_eq_true ((sum_just la lc lb).1 h)⟩
        · exact ⟨false, int_eq_false h, int_eq_false fun q => h ((sum_just la lc lb).2 q)⟩
      go_wp2_with fail
      refine (sum_any _ xa).mono ?_
      rintro e w' ⟨rfl, rfl⟩
      go_wp2_with fail
      refine (sum_any _ xc).mono ?_
      rintro e w' ⟨rfl, rfl⟩
      go_wp2_with fail
      refine (sum_any _ xa).mono ?_
      rintro e w' ⟨rfl, rfl⟩
      go_wp2_with fail
      refine (more_any _ _ xb (sumN_lt la)).mono ?_
      rintro e w' ⟨he, rfl⟩
      rw [← sumN_append] at he
      subst he
      go_wp2_with fail
      refine (works_any _).mono ?_
      rintro e w6 ⟨rfl, b6⟩
      go_wp2
      go_ret
      exact ⟨rfl, btot.trans (b6.mono btot.size)⟩

set_option maxRecDepth 100000 in
set_option maxHeartbeats 2000000 in
theorem crcSwaps_any {a t b o : Value} {la lt lb lo : List UInt8} (w : World) (ha : Bs w a la) (ht : Bs w t lt) (hb : Bs w b lb) (ho : Bs w o lo) :
    Calls Try.prog 7 #[a, t, b, o] w (Yes w) := by
  rcases Nat.lt_or_ge 8192 la.length with n1 | n1
  · go_enter Try.func7, Try.ntmps7
    go_wp2_with fail
    refine (vast_yes _ ha (by omega)).mono ?_
    rintro e w1 ⟨rfl, rfl⟩
    go_wp2_with fail
    refine (works_any _).mono ?_
    rintro e w4 ⟨rfl, b4⟩
    go_wp2
    go_ret
    exact ⟨rfl, b4⟩
  rcases Nat.lt_or_ge 8192 lb.length with n2 | n2
  · go_enter Try.func7, Try.ntmps7
    go_wp2_with fail
    refine (vast_no _ ha n1).mono ?_
    rintro e w1 ⟨rfl, rfl⟩
    go_wp2_with fail
    refine (vast_yes _ hb (by omega)).mono ?_
    rintro e w1 ⟨rfl, rfl⟩
    go_wp2_with fail
    refine (works_any _).mono ?_
    rintro e w4 ⟨rfl, b4⟩
    go_wp2
    go_ret
    exact ⟨rfl, b4⟩
  rcases Nat.lt_or_ge 8192 lt.length with n3 | n3
  · go_enter Try.func7, Try.ntmps7
    go_wp2_with fail
    refine (vast_no _ ha n1).mono ?_
    rintro e w1 ⟨rfl, rfl⟩
    go_wp2_with fail
    refine (vast_no _ hb n2).mono ?_
    rintro e w1 ⟨rfl, rfl⟩
    go_wp2_with fail
    refine (vast_yes _ ht (by omega)).mono ?_
    rintro e w1 ⟨rfl, rfl⟩
    go_wp2_with fail
    refine (works_any _).mono ?_
    rintro e w4 ⟨rfl, b4⟩
    go_wp2
    go_ret
    exact ⟨rfl, b4⟩
  rcases Nat.lt_or_ge 8192 lo.length with n4 | n4
  · go_enter Try.func7, Try.ntmps7
    go_wp2_with fail
    refine (vast_no _ ha n1).mono ?_
    rintro e w1 ⟨rfl, rfl⟩
    go_wp2_with fail
    refine (vast_no _ hb n2).mono ?_
    rintro e w1 ⟨rfl, rfl⟩
    go_wp2_with fail
    refine (vast_no _ ht n3).mono ?_
    rintro e w1 ⟨rfl, rfl⟩
    go_wp2_with fail
    refine (vast_yes _ ho (by omega)).mono ?_
    rintro e w1 ⟨rfl, rfl⟩
    go_wp2_with fail
    refine (works_any _).mono ?_
    rintro e w4 ⟨rfl, b4⟩
    go_wp2
    go_ret
    exact ⟨rfl, b4⟩
  exact crcSwaps_go w ha ht hb ho n1 n2 n3 n4
end Go.Proofs.Ytgedaoodldohkaa
