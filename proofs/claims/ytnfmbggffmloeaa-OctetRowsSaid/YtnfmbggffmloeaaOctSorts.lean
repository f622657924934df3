/- The walks of OctetSorts and OctetOrders: each returns true and writes nothing that was there; no condition. -/
import Derived.Test.YtnfmbggffmloeaaOctWorks
namespace Go.Proofs.Ytnfmbggffmloeaa
open Go.RowKit

/-- A call returns true and writes nothing that was there. -/
def Yes (w : World) (e : Ending) (w' : World) : Prop := e = .returned (.bool true) ∧ Below w.heap.size w w'
theorem Yes.later {w w1 w2 : World} {e : Ending} (h : Yes w1 e w2) (hb : Below w.heap.size w w1) : Yes w e w2 := ⟨h.1, hb.trans (h.2.mono hb.size)⟩

theorem cmp_puts (l : List UInt8) (m n : Nat) (hm : m < 18446744073709551616) (hn : n < 18446744073709551616) :
    Lib.compareBytes (putL l m 8) (putL l n 8) = if m < n then -1 else if n < m then 1 else 0 := by
  have e : ∀ k, putL l k 8 = l ++ beL k 8 := fun _ => rfl
  rw [e, e, cmp_head, cmp_nat _ _ (by rw [beL_length, beL_length]), beNat_beL, beNat_beL, Nat.mod_eq_of_lt (by simpa using hm), Nat.mod_eq_of_lt (by simpa using hn)]

set_option maxHeartbeats 400000 in
theorem octetSorts_lt {h a b c : Value} {lh la lb lc : List UInt8} (m n : Nat) (w : World) (hh : Bs w h lh) (ha : Bs w a la) (hb : Bs w b lb) (hc : Bs w c lc)
    (hm : m < 18446744073709551616) (hn : n < 18446744073709551616) (n1 : lh.length ≤ 16384) (n2 : la.length ≤ 16384) (n3 : lb.length ≤ 16384) (n4 : lc.length ≤ 16384) (hlt : m < n) :
    Calls Try.prog 7 #[h, .int .u64 (m : Int), .int .u64 (n : Int), a, b, c] w (Yes w) := by
  have f1 : ¬ (n : Int) < m := by omega
  have hcmp : Hid (Lib.compareBytes (putL lh m 8) (putL lh n 8) = -1) := Lib.hid (by rw [cmp_puts lh m n hm hn, if_pos hlt])
  go_enter Try.func7, Try.ntmps7
  go_wp2_with fail
  refine (vast_no _ hh n1).mono ?_
  rintro e w1 ⟨rfl, rfl⟩
  go_wp2_with fail
  refine (vast_no _ ha n2).mono ?_
  rintro e w1 ⟨rfl, rfl⟩
  go_wp2_with fail
  refine (vast_no _ hb n3).mono ?_
  rintro e w1 ⟨rfl, rfl⟩
  go_wp2_with fail
  refine (vast_no _ hc n4).mono ?_
  rintro e w1 ⟨rfl, rfl⟩
  go_wp2_with fail
  refine (put_any m 8 _ hh (by omega)).mono ?_
  rintro e w1 ⟨v1, rfl, o1, b1⟩
  go_wp2_with fail
  refine (put_any n 8 _ (hh.below b1) (by omega)).mono ?_
  rintro e w2 ⟨v2, rfl, o2, b2⟩
  go_wp2_with fail
  refine (order_any _ (o1.bs.below b2) o2.bs).mono ?_
  rintro e w3 ⟨he, rfl⟩
  rw [hcmp.out] at he
  subst he
  have b12 := b1.trans (b2.mono b1.size)
  by_cases hX : 0 < Lib.compareBytes la lb
  · go_wp2_with fail
    refine (order_any _ (ha.below b12) (hb.below b12)).mono ?_
    rintro e w3 ⟨rfl, rfl⟩
    go_wp2_with fail
    refine (works_any _).mono ?_
    rintro e w3 ⟨rfl, b3⟩
    go_wp2
    go_ret
    exact ⟨rfl, b12.trans (b3.mono b12.size)⟩
  · by_cases hY : 0 < Lib.compareBytes lb lc
    · go_wp2_with fail
      refine (order_any _ (ha.below b12) (hb.below b12)).mono ?_
      rintro e w3 ⟨rfl, rfl⟩
      go_wp2_with fail
      refine (order_any _ (hb.below b12) (hc.below b12)).mono ?_
      rintro e w3 ⟨rfl, rfl⟩
      go_wp2_with fail
      refine (works_any _).mono ?_
      rintro e w3 ⟨rfl, b3⟩
      go_wp2
      go_ret
      exact ⟨rfl, b12.trans (b3.mono b12.size)⟩
    · have hZ := cmp_trans la lb lc (by omega) (by omega)
      go_wp2_with fail
      refine (order_any _ (ha.below b12) (hb.below b12)).mono ?_
      rintro e w3 ⟨rfl, rfl⟩
      go_wp2_with fail
      refine (order_any _ (hb.below b12) (hc.below b12)).mono ?_
      rintro e w3 ⟨rfl, rfl⟩
      go_wp2_with fail
      refine (order_any _ (ha.below b12) (hc.below b12)).mono ?_
      rintro e w3 ⟨rfl, rfl⟩
      go_wp2_with fail
      refine (works_any _).mono ?_
      rintro e w3 ⟨rfl, b3⟩
      go_wp2
      go_ret
      exact ⟨rfl, b12.trans (b3.mono b12.size)⟩

set_option maxHeartbeats 400000 in
theorem octetSorts_gt {h a b c : Value} {lh la lb lc : List UInt8} (m n : Nat) (w : World) (hh : Bs w h lh) (ha : Bs w a la) (hb : Bs w b lb) (hc : Bs w c lc)
    (hm : m < 18446744073709551616) (hn : n < 18446744073709551616) (n1 : lh.length ≤ 16384) (n2 : la.length ≤ 16384) (n3 : lb.length ≤ 16384) (n4 : lc.length ≤ 16384) (hlt : n < m) :
    Calls Try.prog 7 #[h, .int .u64 (m : Int), .int .u64 (n : Int), a, b, c] w (Yes w) := by
  have f1 : ¬ (m : Int) < n := by omega
  have hcmp : Hid (Lib.compareBytes (putL lh m 8) (putL lh n 8) = 1) := Lib.hid (by rw [cmp_puts lh m n hm hn, if_neg (by omega), if_pos hlt])
  go_enter Try.func7, Try.ntmps7
  go_wp2_with fail
  refine (vast_no _ hh n1).mono ?_
  rintro e w1 ⟨rfl, rfl⟩
  go_wp2_with fail
  refine (vast_no _ ha n2).mono ?_
  rintro e w1 ⟨rfl, rfl⟩
  go_wp2_with fail
  refine (vast_no _ hb n3).mono ?_
  rintro e w1 ⟨rfl, rfl⟩
  go_wp2_with fail
  refine (vast_no _ hc n4).mono ?_
  rintro e w1 ⟨rfl, rfl⟩
  go_wp2_with fail
  refine (put_any m 8 _ hh (by omega)).mono ?_
  rintro e w1 ⟨v1, rfl, o1, b1⟩
  go_wp2_with fail
  refine (put_any n 8 _ (hh.below b1) (by omega)).mono ?_
  rintro e w2 ⟨v2, rfl, o2, b2⟩
  go_wp2_with fail
  refine (order_any _ (o1.bs.below b2) o2.bs).mono ?_
  rintro e w3 ⟨he, rfl⟩
  rw [hcmp.out] at he
  subst he
  have b12 := b1.trans (b2.mono b1.size)
  by_cases hX : 0 < Lib.compareBytes la lb
  · go_wp2_with fail
    refine (order_any _ (ha.below b12) (hb.below b12)).mono ?_
    rintro e w3 ⟨rfl, rfl⟩
    go_wp2_with fail
    refine (works_any _).mono ?_
    rintro e w3 ⟨rfl, b3⟩
    go_wp2
    go_ret
    exact ⟨rfl, b12.trans (b3.mono b12.size)⟩
  · by_cases hY : 0 < Lib.compareBytes lb lc
    · go_wp2_with fail
      refine (order_any _ (ha.below b12) (hb.below b12)).mono ?_
      rintro e w3 ⟨rfl, rfl⟩
      go_wp2_with fail
      refine (order_any _ (hb.below b12) (hc.below b12)).mono ?_
      rintro e w3 ⟨rfl, rfl⟩
      go_wp2_with fail
      refine (works_any _).mono ?_
      rintro e w3 ⟨rfl, b3⟩
      go_wp2
      go_ret
      exact ⟨rfl, b12.trans (b3.mono b12.size)⟩
    · have hZ := cmp_trans la lb lc (by omega) (by omega)
      go_wp2_with fail
      refine (order_any _ (ha.below b12) (hb.below b12)).mono ?_
      rintro e w3 ⟨rfl, rfl⟩
      go_wp2_with fail
      refine (order_any _ (hb.below b12) (hc.below b12)).mono ?_
      rintro e w3 ⟨rfl, rfl⟩
      go_wp2_with fail
      refine (order_any _ (ha.below b12) (hc.below b12)).mono ?_
      rintro e w3 ⟨rfl, rfl⟩
      go_wp2_with fail
      refine (works_any _).mono ?_
      rintro e w3 ⟨rfl, b3⟩
      go_wp2
      go_ret
      exact ⟨rfl, b12.trans (b3.mono b12.size)⟩

set_option maxHeartbeats 400000 in
theorem octetSorts_eq {h a b c : Value} {lh la lb lc : List UInt8} (m n : Nat) (w : World) (hh : Bs w h lh) (ha : Bs w a la) (hb : Bs w b lb) (hc : Bs w c lc)
    (hm : m < 18446744073709551616) (hn : n < 18446744073709551616) (n1 : lh.length ≤ 16384) (n2 : la.length ≤ 16384) (n3 : lb.length ≤ 16384) (n4 : lc.length ≤ 16384) (hlt : m = n) :
    Calls Try.prog 7 #[h, .int .u64 (m : Int), .int .u64 (n : Int), a, b, c] w (Yes w) := by
  have f1 : ¬ (m : Int) < n := by omega
  have f2 : ¬ (n : Int) < m := by omega
  have hcmp : Hid (Lib.compareBytes (putL lh m 8) (putL lh n 8) = 0) := Lib.hid (by rw [cmp_puts lh m n hm hn, if_neg (by omega), if_neg (by omega)])
  clear hlt
  go_enter Try.func7, Try.ntmps7
  go_wp2_with fail
  refine (vast_no _ hh n1).mono ?_
  rintro e w1 ⟨rfl, rfl⟩
  go_wp2_with fail
  refine (vast_no _ ha n2).mono ?_
  rintro e w1 ⟨rfl, rfl⟩
  go_wp2_with fail
  refine (vast_no _ hb n3).mono ?_
  rintro e w1 ⟨rfl, rfl⟩
  go_wp2_with fail
  refine (vast_no _ hc n4).mono ?_
  rintro e w1 ⟨rfl, rfl⟩
  go_wp2_with fail
  refine (put_any m 8 _ hh (by omega)).mono ?_
  rintro e w1 ⟨v1, rfl, o1, b1⟩
  go_wp2_with fail
  refine (put_any n 8 _ (hh.below b1) (by omega)).mono ?_
  rintro e w2 ⟨v2, rfl, o2, b2⟩
  go_wp2_with fail
  refine (order_any _ (o1.bs.below b2) o2.bs).mono ?_
  rintro e w3 ⟨he, rfl⟩
  rw [hcmp.out] at he
  subst he
  have b12 := b1.trans (b2.mono b1.size)
  by_cases hX : 0 < Lib.compareBytes la lb
  · go_wp2_with fail
    refine (order_any _ (ha.below b12) (hb.below b12)).mono ?_
    rintro e w3 ⟨rfl, rfl⟩
    go_wp2_with fail
    refine (works_any _).mono ?_
    rintro e w3 ⟨rfl, b3⟩
    go_wp2
    go_ret
    exact ⟨rfl, b12.trans (b3.mono b12.size)⟩
  · by_cases hY : 0 < Lib.compareBytes lb lc
    · go_wp2_with fail
      refine (order_any _ (ha.below b12) (hb.below b12)).mono ?_
      rintro e w3 ⟨rfl, rfl⟩
      go_wp2_with fail
      refine (order_any _ (hb.below b12) (hc.below b12)).mono ?_
      rintro e w3 ⟨rfl, rfl⟩
      go_wp2_with fail
      refine (works_any _).mono ?_
      rintro e w3 ⟨rfl, b3⟩
      go_wp2
      go_ret
      exact ⟨rfl, b12.trans (b3.mono b12.size)⟩
    · have hZ := cmp_trans la lb lc (by omega) (by omega)
      go_wp2_with fail
      refine (order_any _ (ha.below b12) (hb.below b12)).mono ?_
      rintro e w3 ⟨rfl, rfl⟩
      go_wp2_with fail
      refine (order_any _ (hb.below b12) (hc.below b12)).mono ?_
      rintro e w3 ⟨rfl, rfl⟩
      go_wp2_with fail
      refine (order_any _ (ha.below b12) (hc.below b12)).mono ?_
      rintro e w3 ⟨rfl, rfl⟩
      go_wp2_with fail
      refine (works_any _).mono ?_
      rintro e w3 ⟨rfl, b3⟩
      go_wp2
      go_ret
      exact ⟨rfl, b12.trans (b3.mono b12.size)⟩

set_option maxHeartbeats 400000 in
theorem octetSorts_v0 {h a b c : Value} {lh : List UInt8} (m n : Int) (w : World) (hh : Bs w h lh)
    (nv : 16384 < lh.length) :
    Calls Try.prog 7 #[h, .int .u64 m, .int .u64 n, a, b, c] w (Yes w) := by
  go_enter Try.func7, Try.ntmps7
  go_wp2_with fail
  refine (vast_yes _ hh nv).mono ?_
  rintro e w1 ⟨rfl, rfl⟩
  go_wp2_with fail
  refine (works_any _).mono ?_
  rintro e w3 ⟨rfl, b3⟩
  go_wp2
  go_ret
  exact ⟨rfl, b3⟩

set_option maxHeartbeats 400000 in
theorem octetSorts_v1 {h a b c : Value} {lh la : List UInt8} (m n : Int) (w : World) (hh : Bs w h lh) (ha : Bs w a la)
    (n1 : lh.length ≤ 16384) (nv : 16384 < la.length) :
    Calls Try.prog 7 #[h, .int .u64 m, .int .u64 n, a, b, c] w (Yes w) := by
  go_enter Try.func7, Try.ntmps7
  go_wp2_with fail
  refine (vast_no _ hh n1).mono ?_
  rintro e w1 ⟨rfl, rfl⟩
  go_wp2_with fail
  refine (vast_yes _ ha nv).mono ?_
  rintro e w1 ⟨rfl, rfl⟩
  go_wp2_with fail
  refine (works_any _).mono ?_
  rintro e w3 ⟨rfl, b3⟩
  go_wp2
  go_ret
  exact ⟨rfl, b3⟩

set_option maxHeartbeats 400000 in
theorem octetSorts_v2 {h a b c : Value} {lh la lb : List UInt8} (m n : Int) (w : World) (hh : Bs w h lh) (ha : Bs w a la) (hb : Bs w b lb)
    (n1 : lh.length ≤ 16384) (n2 : la.length ≤ 16384) (nv : 16384 < lb.length) :
    Calls Try.prog 7 #[h, .int .u64 m, .int .u64 n, a, b, c] w (Yes w) := by
  go_enter Try.func7, Try.ntmps7
  go_wp2_with fail
  refine (vast_no _ hh n1).mono ?_
  rintro e w1 ⟨rfl, rfl⟩
  go_wp2_with fail
  refine (vast_no _ ha n2).mono ?_
  rintro e w1 ⟨rfl, rfl⟩
  go_wp2_with fail
  refine (vast_yes _ hb nv).mono ?_
  rintro e w1 ⟨rfl, rfl⟩
  go_wp2_with fail
  refine (works_any _).mono ?_
  rintro e w3 ⟨rfl, b3⟩
  go_wp2
  go_ret
  exact ⟨rfl, b3⟩

set_option maxHeartbeats 400000 in
theorem octetSorts_v3 {h a b c : Value} {lh la lb lc : List UInt8} (m n : Int) (w : World) (hh : Bs w h lh) (ha : Bs w a la) (hb : Bs w b lb) (hc : Bs w c lc)
    (n1 : lh.length ≤ 16384) (n2 : la.length ≤ 16384) (n3 : lb.length ≤ 16384) (nv : 16384 < lc.length) :
    Calls Try.prog 7 #[h, .int .u64 m, .int .u64 n, a, b, c] w (Yes w) := by
  go_enter Try.func7, Try.ntmps7
  go_wp2_with fail
  refine (vast_no _ hh n1).mono ?_
  rintro e w1 ⟨rfl, rfl⟩
  go_wp2_with fail
  refine (vast_no _ ha n2).mono ?_
  rintro e w1 ⟨rfl, rfl⟩
  go_wp2_with fail
  refine (vast_no _ hb n3).mono ?_
  rintro e w1 ⟨rfl, rfl⟩
  go_wp2_with fail
  refine (vast_yes _ hc nv).mono ?_
  rintro e w1 ⟨rfl, rfl⟩
  go_wp2_with fail
  refine (works_any _).mono ?_
  rintro e w3 ⟨rfl, b3⟩
  go_wp2
  go_ret
  exact ⟨rfl, b3⟩

theorem octetSorts_any {h a b c : Value} {lh la lb lc : List UInt8} (m n : Nat) (w : World) (hh : Bs w h lh) (ha : Bs w a la) (hb : Bs w b lb) (hc : Bs w c lc)
    (hm : m < 18446744073709551616) (hn : n < 18446744073709551616) :
    Calls Try.prog 7 #[h, .int .u64 (m : Int), .int .u64 (n : Int), a, b, c] w (Yes w) := by
  rcases Nat.lt_or_ge 16384 lh.length with q1 | q1
  · exact octetSorts_v0 m n w hh q1
  rcases Nat.lt_or_ge 16384 la.length with q2 | q2
  · exact octetSorts_v1 m n w hh ha q1 q2
  rcases Nat.lt_or_ge 16384 lb.length with q3 | q3
  · exact octetSorts_v2 m n w hh ha hb q1 q2 q3
  rcases Nat.lt_or_ge 16384 lc.length with q4 | q4
  · exact octetSorts_v3 m n w hh ha hb hc q1 q2 q3 q4
  rcases Nat.lt_trichotomy m n with q | q | q
  · exact octetSorts_lt m n w hh ha hb hc hm hn q1 q2 q3 q4 q
  · exact octetSorts_eq m n w hh ha hb hc hm hn q1 q2 q3 q4 q
  · exact octetSorts_gt m n w hh ha hb hc hm hn q1 q2 q3 q4 q
end Go.Proofs.Ytnfmbggffmloeaa
