/- The contract of octet.TakeBytes: it answers as the chapter says and writes nothing that was there; condition: the list is no longer than 2^30. -/
import Derived.Test.YtcpapdpnnlnemaaOcTake
namespace Go.Proofs.Ytcpapdpnnlnemaa
open Go.RowKit

set_option maxHeartbeats 400000 in
theorem takeBytes_bad {b : Value} {l : List UInt8} (p : Int) (w : World) (hb : Bs w b l) (hl : l.length ≤ 1073741824) (hm : ¬ takeMay l p 2) :
    Calls Try.prog 72 #[b, .int .i64 p] w (TakesB w l p) := by
  obtain ⟨a, cap, rfl, hb⟩ := hb.shape
  obtain ⟨t1, t2, t3⟩ := take_two_bad l p hm
  have T1 := Lib.hid t1
  have T2 := Lib.hid t2
  have T3 := Lib.hid t3
  clear t1 t2 t3
  go_enter Try.func72, Try.ntmps72
  go_wp2_with fail
  refine (take_any _ _ _ hb (by omega)).mono ?_
  rintro e w1 ⟨he, hb1⟩
  rw [T1.out, T2.out, T3.out] at he
  subst he
  go_wp2
  go_ret3
  exact takesB_bad hm hb1

set_option maxHeartbeats 400000 in
theorem takeBytes_few {b : Value} {l : List UInt8} (p : Int) (w : World) (hb : Bs w b l) (hl : l.length ≤ 1073741824) (hm : takeMay l p 2) (h2 : ¬ 2 ≤ l.length - p) :
    Calls Try.prog 72 #[b, .int .i64 p] w (TakesB w l p) := by
  obtain ⟨a, cap, rfl, hb⟩ := hb.shape
  obtain ⟨t1, t2, t3⟩ := take_two_few l p hm (by omega)
  have hok : ¬ tbOk l p := fun q => h2 (by have := q.2; omega)
  have T1 := Lib.hid t1
  have T2 := Lib.hid t2
  have T3 := Lib.hid t3
  clear t1 t2 t3
  go_enter Try.func72, Try.ntmps72
  go_wp2_with fail
  refine (take_any _ _ _ hb (by omega)).mono ?_
  rintro e w1 ⟨he, hb1⟩
  rw [T1.out, T2.out, T3.out] at he
  subst he
  go_wp2
  go_ret3
  exact takesB_few hm hok hb1

set_option maxHeartbeats 400000 in
theorem takeBytes_cut {b : Value} {l : List UInt8} (p : Nat) (w : World) (hb : Bs w b l) (hl : l.length ≤ 1073741824) (hm : takeMay l p 2) (h2 : 2 ≤ (l.length : Int) - p) (h3 : ¬ 2 + (tbN l p : Int) ≤ l.length - p) :
    Calls Try.prog 72 #[b, .int .i64 (p : Int)] w (TakesB w l p) := by
  obtain ⟨a, cap, rfl, hb⟩ := hb.shape
  obtain ⟨t1, t2, t3⟩ := take_two l p hm h2
  have htn := take_two_lt l p
  have hok : ¬ tbOk l p := fun q => h3 q.2
  have fin := fun (w' : World) (hb' : Below w.heap.size w w') => takesB_few (w' := w') hm hok hb'
  generalize tbN l p = n at *
  have T1 := Lib.hid t1
  have T2 := Lib.hid t2
  have T3 := Lib.hid t3
  have Hfin := Lib.hid fin
  have h4 : (l.length : Int) - (p + 2) < n := by omega
  have hp : (p : Int) ≤ 1073741824 := by omega
  clear t1 t2 t3 fin hm hok
  go_enter Try.func72, Try.ntmps72
  go_wp2_with fail
  refine (take_any _ _ _ hb (by omega)).mono ?_
  rintro e w1 ⟨he, hb1⟩
  rw [T1.out, T2.out, T3.out] at he
  subst he
  go_wp2
  go_ret3
  exact Hfin.out _ hb1

set_option maxHeartbeats 400000 in
theorem takeBytes_ok {b : Value} {l : List UInt8} (p : Nat) (w : World) (hb : Bs w b l) (hl : l.length ≤ 1073741824) (hm : takeMay l p 2) (h2 : 2 ≤ (l.length : Int) - p) (h3 : 2 + (tbN l p : Int) ≤ l.length - p) :
    Calls Try.prog 72 #[b, .int .i64 (p : Int)] w (TakesB w l p) := by
  obtain ⟨a, cap, rfl, hb⟩ := hb.shape
  obtain ⟨t1, t2, t3⟩ := take_two l p hm h2
  have htn := take_two_lt l p
  have hok : tbOk l p := ⟨hm, h3⟩
  have fin := fun (w' : World) (v : Value) ho (hb' : Below w.heap.size w w') => takesB_ok (w' := w') (v := v) hok ho hb'
  obtain ⟨v, hv, hbv⟩ := run_slice_bs bt w hb .i64 .i64 (p + 2) (p + 2 + tbN l p) (by omega) (by omega)
  have hlen : ((l.take (p + 2 + tbN l p)).drop (p + 2)).length ≤ 1073741824 := by simp; omega
  have hp : (p : Int) ≤ 1073741824 := by omega
  generalize (l.take (p + 2 + tbN l p)).drop (p + 2) = m at *
  generalize tbN l p = n at *
  have T1 := Lib.hid t1
  have T2 := Lib.hid t2
  have T3 := Lib.hid t3
  have Hfin := Lib.hid fin
  simp only [Int.natCast_add, Int.cast_ofNat_Int] at hv
  have h4 : ¬ (l.length : Int) - (p + 2) < n := by omega
  clear t1 t2 t3 fin hm hok
  go_enter Try.func72, Try.ntmps72
  go_wp2_with fail
  refine (take_any _ _ _ hb (by omega)).mono ?_
  rintro e w1 ⟨he, hb1⟩
  rw [T1.out, T2.out, T3.out] at he
  subst he
  go_wp2_with fail

  refine (withRoom_any 0 _ (hbv.below hb1) (by omega)).mono ?_
  rintro e w2 ⟨v2, rfl, ho2, hb2⟩
  go_wp2
  go_ret3
  exact Hfin.out _ _ (ho2.mono hb1.size) (hb1.trans (hb2.mono hb1.size))

theorem takeBytes_any {b : Value} {l : List UInt8} (p : Int) (w : World) (hb : Bs w b l) (hl : l.length ≤ 1073741824) :
    Calls Try.prog 72 #[b, .int .i64 p] w (TakesB w l p) := by
  by_cases hm : takeMay l p 2
  · by_cases h2 : 2 ≤ l.length - p
    · obtain ⟨p, rfl⟩ := Int.eq_ofNat_of_zero_le hm.2.1
      by_cases h3 : 2 + (tbN l p : Int) ≤ l.length - p
      · exact takeBytes_ok p w hb hl hm h2 h3
      · exact takeBytes_cut p w hb hl hm h2 h3
    · exact takeBytes_few p w hb hl hm h2
  · exact takeBytes_bad p w hb hl hm
end Go.Proofs.Ytcpapdpnnlnemaa
