/- The walk of OctetOrders: it returns true and writes nothing that was there; no condition. -/
import Derived.Test.YtnfmbggffmloeaaOctSorts
namespace Go.Proofs.Ytnfmbggffmloeaa
open Go.RowKit

set_option maxHeartbeats 1000000 in
theorem octetOrders_lt {a b : Value} {la lb : List UInt8} (w : World) (ha : Bs w a la) (hb : Bs w b lb) (n1 : la.length ≤ 16384) (n2 : lb.length ≤ 16384) (hX : Lib.compareBytes la lb = -1) :
    Calls Try.prog 6 #[a, b] w (Yes w) := by
  have hY : Lib.compareBytes lb la = 1 := by rw [cmp_neg, hX]; rfl
  have hZ : Lib.compareBytes (la ++ [0]) lb ≤ 0 := cmp_after_le la lb (by omega)
  have hne : la ≠ lb := fun h => by rw [(cmp_eq_zero la lb).2 h] at hX; omega
  have HX := Lib.hid hX
  have HY := Lib.hid hY
  have HW := Lib.hid (cmp_after la)
  have hbeq : (la == lb) = false := beq_eq_false_iff_ne.2 hne
  clear hX hY hne
  go_enter Try.func6, Try.ntmps6
  go_wp2_with fail
  refine (vast_no _ ha n1).mono ?_
  rintro e w1 ⟨rfl, rfl⟩
  go_wp2_with fail
  refine (vast_no _ hb n2).mono ?_
  rintro e w1 ⟨rfl, rfl⟩
  go_wp2_with fail
  refine (order_any _ ha hb).mono ?_
  rintro e w1 ⟨he, rfl⟩
  rw [HX.out] at he
  subst he
  go_wp2_with fail
  refine (copied_any _ ha (by omega)).mono ?_
  rintro e w1 ⟨v1, rfl, o1, b1⟩
  go_wp2_with fail
  refine (after_any _ o1.bs (by omega)).mono ?_
  rintro e w2 ⟨v2, rfl, o2, b2⟩
  have b12 := b1.trans (b2.mono b1.size)
  go_wp2_with fail
  refine (refOrder_any _ (ha.below b12) (hb.below b12) (by omega) (by omega)).mono ?_
  rintro e w3 ⟨he, b3⟩
  rw [HX.out] at he
  subst he
  have b13 := b12.trans (b3.mono b12.size)
  go_wp2_with fail
  refine (order_any _ (hb.below b13) (ha.below b13)).mono ?_
  rintro e w4 ⟨he, rfl⟩
  rw [HY.out] at he
  subst he
  have ka := run_string_bs bt (d := 9) Try.underlying9 w3 (ha.below b13)
  have kb := run_string_bs bt (d := 9) Try.underlying9 w3 (hb.below b13)
  go_wp2_with fail
  refine (refAfter_any _ (ha.below b13) (by omega)).mono ?_
  rintro e w5 ⟨v5, rfl, o5, b5⟩
  have b15 := b13.trans (b5.mono b13.size)
  have hs2 := (o2.bs.below b3).below b5
  go_wp2_with fail
  refine (same_true _ hs2 o5.bs (by simp; omega)).mono ?_
  rintro e w6 ⟨rfl, b6⟩
  have b16 := b15.trans (b6.mono b15.size)
  go_wp2_with fail
  refine (order_any _ (ha.below b16) (hs2.below b6)).mono ?_
  rintro e w7 ⟨he, rfl⟩
  rw [HW.out] at he
  subst he
  go_wp2_with fail
  refine (order_any _ (hs2.below b6) (hb.below b16)).mono ?_
  rintro e w7 ⟨rfl, rfl⟩
  go_wp2_with fail
  refine (works_any _).mono ?_
  rintro e w8 ⟨rfl, b8⟩
  go_wp2
  go_ret
  exact ⟨rfl, b16.trans (b8.mono b16.size)⟩
set_option maxHeartbeats 1000000 in
theorem octetOrders_gt {a b : Value} {la lb : List UInt8} (w : World) (ha : Bs w a la) (hb : Bs w b lb) (n1 : la.length ≤ 16384) (n2 : lb.length ≤ 16384) (hX : Lib.compareBytes la lb = 1) :
    Calls Try.prog 6 #[a, b] w (Yes w) := by
  have hY : Lib.compareBytes lb la = -1 := by rw [cmp_neg, hX]
  have hne : la ≠ lb := fun h => by rw [(cmp_eq_zero la lb).2 h] at hX; omega
  have HX := Lib.hid hX
  have HY := Lib.hid hY
  have HW := Lib.hid (cmp_after la)
  have hbeq : (la == lb) = false := beq_eq_false_iff_ne.2 hne
  clear hX hY hne
  go_enter Try.func6, Try.ntmps6
  go_wp2_with fail
  refine (vast_no _ ha n1).mono ?_
  rintro e w1 ⟨rfl, rfl⟩
  go_wp2_with fail
  refine (vast_no _ hb n2).mono ?_
  rintro e w1 ⟨rfl, rfl⟩
  go_wp2_with fail
  refine (order_any _ ha hb).mono ?_
  rintro e w1 ⟨he, rfl⟩
  rw [HX.out] at he
  subst he
  go_wp2_with fail
  refine (copied_any _ ha (by omega)).mono ?_
  rintro e w1 ⟨v1, rfl, o1, b1⟩
  go_wp2_with fail
  refine (after_any _ o1.bs (by omega)).mono ?_
  rintro e w2 ⟨v2, rfl, o2, b2⟩
  have b12 := b1.trans (b2.mono b1.size)
  go_wp2_with fail
  refine (refOrder_any _ (ha.below b12) (hb.below b12) (by omega) (by omega)).mono ?_
  rintro e w3 ⟨he, b3⟩
  rw [HX.out] at he
  subst he
  have b13 := b12.trans (b3.mono b12.size)
  go_wp2_with fail
  refine (order_any _ (hb.below b13) (ha.below b13)).mono ?_
  rintro e w4 ⟨he, rfl⟩
  rw [HY.out] at he
  subst he
  have ka := run_string_bs bt (d := 9) Try.underlying9 w3 (ha.below b13)
  have kb := run_string_bs bt (d := 9) Try.underlying9 w3 (hb.below b13)
  go_wp2_with fail
  refine (refAfter_any _ (ha.below b13) (by omega)).mono ?_
  rintro e w5 ⟨v5, rfl, o5, b5⟩
  have b15 := b13.trans (b5.mono b13.size)
  have hs2 := (o2.bs.below b3).below b5
  go_wp2_with fail
  refine (same_true _ hs2 o5.bs (by simp; omega)).mono ?_
  rintro e w6 ⟨rfl, b6⟩
  have b16 := b15.trans (b6.mono b15.size)
  go_wp2_with fail
  refine (order_any _ (ha.below b16) (hs2.below b6)).mono ?_
  rintro e w7 ⟨he, rfl⟩
  rw [HW.out] at he
  subst he
  go_wp2_with fail
  refine (works_any _).mono ?_
  rintro e w8 ⟨rfl, b8⟩
  go_wp2
  go_ret
  exact ⟨rfl, b16.trans (b8.mono b16.size)⟩
set_option maxHeartbeats 1000000 in
theorem octetOrders_eq {a b : Value} {la lb : List UInt8} (w : World) (ha : Bs w a la) (hb : Bs w b lb) (n1 : la.length ≤ 16384) (n2 : lb.length ≤ 16384) (hX : Lib.compareBytes la lb = 0) :
    Calls Try.prog 6 #[a, b] w (Yes w) := by
  obtain rfl : la = lb := (cmp_eq_zero la lb).1 hX
  have HX := Lib.hid (cmp_self la)
  have HY := HX
  have HW := Lib.hid (cmp_after la)
  clear hX
  go_enter Try.func6, Try.ntmps6
  go_wp2_with fail
  refine (vast_no _ ha n1).mono ?_
  rintro e w1 ⟨rfl, rfl⟩
  go_wp2_with fail
  refine (vast_no _ hb n2).mono ?_
  rintro e w1 ⟨rfl, rfl⟩
  go_wp2_with fail
  refine (order_any _ ha hb).mono ?_
  rintro e w1 ⟨he, rfl⟩
  rw [HX.out] at he
  subst he
  go_wp2_with fail
  refine (copied_any _ ha (by omega)).mono ?_
  rintro e w1 ⟨v1, rfl, o1, b1⟩
  go_wp2_with fail
  refine (after_any _ o1.bs (by omega)).mono ?_
  rintro e w2 ⟨v2, rfl, o2, b2⟩
  have b12 := b1.trans (b2.mono b1.size)
  go_wp2_with fail
  refine (refOrder_any _ (ha.below b12) (hb.below b12) (by omega) (by omega)).mono ?_
  rintro e w3 ⟨he, b3⟩
  rw [HX.out] at he
  subst he
  have b13 := b12.trans (b3.mono b12.size)
  go_wp2_with fail
  refine (order_any _ (hb.below b13) (ha.below b13)).mono ?_
  rintro e w4 ⟨he, rfl⟩
  rw [HY.out] at he
  subst he
  have ka := run_string_bs bt (d := 9) Try.underlying9 w3 (ha.below b13)
  have kb := run_string_bs bt (d := 9) Try.underlying9 w3 (hb.below b13)
  go_wp2_with fail
  refine (refAfter_any _ (ha.below b13) (by omega)).mono ?_
  rintro e w5 ⟨v5, rfl, o5, b5⟩
  have b15 := b13.trans (b5.mono b13.size)
  have hs2 := (o2.bs.below b3).below b5
  go_wp2_with fail
  refine (same_true _ hs2 o5.bs (by simp; omega)).mono ?_
  rintro e w6 ⟨rfl, b6⟩
  have b16 := b15.trans (b6.mono b15.size)
  go_wp2_with fail
  refine (order_any _ (ha.below b16) (hs2.below b6)).mono ?_
  rintro e w7 ⟨he, rfl⟩
  rw [HW.out] at he
  subst he
  go_wp2_with fail
  refine (works_any _).mono ?_
  rintro e w8 ⟨rfl, b8⟩
  go_wp2
  go_ret
  exact ⟨rfl, b16.trans (b8.mono b16.size)⟩

set_option maxHeartbeats 400000 in
theorem octetOrders_v0 {a b : Value} {la : List UInt8} (w : World) (ha : Bs w a la) (nv : 16384 < la.length) :
    Calls Try.prog 6 #[a, b] w (Yes w) := by
  go_enter Try.func6, Try.ntmps6
  go_wp2_with fail
  refine (vast_yes _ ha nv).mono ?_
  rintro e w1 ⟨rfl, rfl⟩
  go_wp2_with fail
  refine (works_any _).mono ?_
  rintro e w3 ⟨rfl, b3⟩
  go_wp2
  go_ret
  exact ⟨rfl, b3⟩

set_option maxHeartbeats 400000 in
theorem octetOrders_v1 {a b : Value} {la lb : List UInt8} (w : World) (ha : Bs w a la) (hb : Bs w b lb) (n1 : la.length ≤ 16384) (nv : 16384 < lb.length) :
    Calls Try.prog 6 #[a, b] w (Yes w) := by
  go_enter Try.func6, Try.ntmps6
  go_wp2_with fail
  refine (vast_no _ ha n1).mono ?_
  rintro e w1 ⟨rfl, rfl⟩
  go_wp2_with fail
  refine (vast_yes _ hb nv).mono ?_
  rintro e w1 ⟨rfl, rfl⟩
  go_wp2_with fail
  refine (works_any _).mono ?_
  rintro e w3 ⟨rfl, b3⟩
  go_wp2
  go_ret
  exact ⟨rfl, b3⟩

theorem octetOrders_any {a b : Value} {la lb : List UInt8} (w : World) (ha : Bs w a la) (hb : Bs w b lb) :
    Calls Try.prog 6 #[a, b] w (Yes w) := by
  rcases Nat.lt_or_ge 16384 la.length with q1 | q1
  · exact octetOrders_v0 w ha q1
  rcases Nat.lt_or_ge 16384 lb.length with q2 | q2
  · exact octetOrders_v1 w ha hb q1 q2
  rcases cmp_three la lb with q | q | q
  · exact octetOrders_lt w ha hb q1 q2 q
  · exact octetOrders_eq w ha hb q1 q2 q
  · exact octetOrders_gt w ha hb q1 q2 q
end Go.Proofs.Ytnfmbggffmloeaa
