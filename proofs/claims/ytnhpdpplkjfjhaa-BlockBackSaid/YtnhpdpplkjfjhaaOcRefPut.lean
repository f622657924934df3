/- The contract of the document's Put (layer 1): it answers as the chapter says and writes nothing that was there; condition: the length that it names. -/
import Derived.Test.YtnhpdpplkjfjhaaOcPut
import Derived.Deep.QuietTactic
import Derived.BigQuiet
namespace Go.Proofs.Ytnhpdpplkjfjhaa
open Go.RowKit

set_option maxHeartbeats 400000 in
theorem refSize_any (n : Int) (w : World) :
    Calls Try.prog 28 #[.int .i64 n] w fun e w' => e = .returned (.bool (mayB n)) ∧ w = w' := by
  by_cases a1 : n = 1
  · subst a1
    go_enter Try.func28, Try.ntmps28
    go_wp2
    go_ret
    exact ⟨rfl, rfl⟩
  by_cases a2 : n = 2
  · subst a2
    go_enter Try.func28, Try.ntmps28
    go_wp2
    go_ret
    exact ⟨rfl, rfl⟩
  by_cases a3 : n = 4
  · subst a3
    go_enter Try.func28, Try.ntmps28
    go_wp2
    go_ret
    exact ⟨rfl, rfl⟩
  by_cases a4 : n = 8
  · subst a4
    go_enter Try.func28, Try.ntmps28
    go_wp2
    go_ret
    exact ⟨rfl, rfl⟩
  have b1 := beq_eq_false_iff_ne.2 a1
  have b2 := beq_eq_false_iff_ne.2 a2
  have b3 := beq_eq_false_iff_ne.2 a3
  have b4 := beq_eq_false_iff_ne.2 a4
  have hm : mayB n = false := by simp [mayB, a1, a2, a3, a4]
  rw [hm]
  clear hm a1 a2 a3 a4
  go_enter Try.func28, Try.ntmps28
  go_wp2
  go_ret
  exact ⟨rfl, rfl⟩

set_option maxHeartbeats 400000 in
theorem refPut_any {b : Value} {l : List UInt8} (n : Nat) (k : Int) (w : World) (hb : Bs w b l) (hl : l.length ≤ 1073741824) :
    Calls Try.prog 17 #[b, .int .u64 (n : Int), .int .i64 k] w (Gives w (putL l n k)) := by
  have hs : ([] : List UInt8).length + l.length ≤ 140737488355328 := by simp; omega
  have hz : w.heap.size ≤ (w.alloc (.cells #[] 5)).heap.size := by simp
  have hbl := (Below.refl w.heap.size w).alloc (Nat.le_refl _) (.cells #[] 5)
  have hb1 := hb.below hbl
  have ho := ow_empty w
  by_cases hk : mayB k = true
  · obtain ⟨k1, k8⟩ := mayB_true hk
    obtain ⟨k, rfl⟩ := Int.eq_ofNat_of_zero_le (show 0 ≤ k by omega)
    have hp : Hid (putL l n (k : Int) = l ++ beL n k) := Lib.hid (by unfold putL; rw [if_pos hk]; rfl)
    go_enter Try.func17, Try.ntmps17
    go_wp2_with (at_builtin; refine wpList_append_bs bt rfl (.tmp 9) (.tmp 10) rfl w.heap.size rfl rfl ho hb1 hs hz ?_; intro v3 w3 ho3 hg3)
    have hbl3 := below_own hbl ho hg3
    refine (refSize_any _ _).mono ?_
    rintro e w4 ⟨rfl, rfl⟩
    go_wp2_with fail
    go_loopw [7, 8] (fun s i wr => ∃ r : Nat, r ≤ k ∧ i = .int .i64 r ∧ Ow wr w.heap.size 5 s (l ++ (beL n k).take r) ∧ Below w.heap.size w wr) (fun _ i _ => k - (intOf i).toNat)
    case atStart => exact ⟨0, by omega, rfl, by simpa using ho3, hbl3⟩
    case round =>
      obtain ⟨r, hr, rfl, hor, hbr⟩ := hrel
      by_cases hlt : r < k
      · have hs : (l ++ (beL n k).take r).length + [UInt8.ofNat (n / 2 ^ (8 * (k - 1 - r)))].length ≤ 140737488355328 := by simp; omega
        have hz : w.heap.size ≤ (wr.alloc (.cells #[Value.int .u8 ((n : Int) / 2 ^ (8 * (k - 1 - r)) % 256)] 5)).heap.size := by have := hbr.size; simp; omega
        go_wp2_with (at_builtin; refine wpList_append_bs bt rfl _ _ rfl w.heap.size rfl rfl (hor.below ((Below.refl _ _).alloc (Nat.le_refl _) _)) (Bs.new1 _ _ _ _ (byte_val n (8 * (k - 1 - r)))) hs hz ?_; intro v2 w2 ho2 hg2)
        go_roundw
        case rel =>
          refine ⟨r + 1, by omega, by go_num, ?_, (hbr.alloc (by have := hbr.size; omega) _).grown hg2 hz (fun j hj => (World.ownsRow.lt hor j hj).1)⟩
          rw [beL_take_succ n k r hlt, ← List.append_assoc]
          exact ho2
        case measure => simp [intOf]; omega
      · obtain rfl : r = k := by omega
        rw [beL_take_all] at hor
        go_wp2
        go_ret
        refine ⟨_, rfl, ?_, hbr⟩
        rw [hp.out]
        exact hor
  · have hk' : mayB k = false := by simpa using hk
    have hp : Hid (putL l n k = l) := Lib.hid (by unfold putL; rw [if_neg hk])
    clear hk
    go_enter Try.func17, Try.ntmps17
    go_wp2_with (at_builtin; refine wpList_append_bs bt rfl (.tmp 9) (.tmp 10) rfl w.heap.size rfl rfl ho hb1 hs hz ?_; intro v3 w3 ho3 hg3)
    have hbl3 := below_own hbl ho hg3
    refine (refSize_any _ _).mono ?_
    rintro e w4 ⟨rfl, rfl⟩
    go_wp2
    go_ret
    refine ⟨_, rfl, ?_, hbl3⟩
    rw [hp.out]
    exact ho3

end Go.Proofs.Ytnhpdpplkjfjhaa
