/- The walk of BlockEnds: it returns true and writes nothing that was there; no condition. -/
import Derived.Test.YtnhpdpplkjfjhaaBlkTurned
namespace Go.Proofs.Ytnhpdpplkjfjhaa
open Go.RowKit

theorem or_one_val (m : Nat) (h : m < 256) : ∃ k : UInt8, k ≠ 0 ∧ Value.int .u8 (bits .or .u8 (m : Int) 1) = .int .u8 (k.toNat : Int) := by
  have h1 := u8_or_nat m 1 h (by decide)
  have h2 : m ||| 1 < 256 := Nat.or_lt_two_pow (n := 8) h (by decide)
  refine ⟨UInt8.ofNat (m ||| 1), fun e => ?_, ?_⟩
  · have h3 := congrArg UInt8.toNat e
    rw [UInt8.toNat_ofNat', Nat.mod_eq_of_lt h2] at h3
    have h4 : (m ||| 1).testBit 0 = true := by rw [Nat.testBit_or]; simp
    rw [h3] at h4
    cases h4
  · rw [UInt8.toNat_ofNat', Nat.mod_eq_of_lt h2, ← h1]
    rfl

set_option maxRecDepth 100000 in
set_option maxHeartbeats 1000000 in
theorem blockEnds_any (m : Nat) (o : Int) (w : World) (hm : m < 256) (hw : (Lit.int .i8 o).wf = true) :
    Calls Try.prog 6 #[.int .u8 (m : Int), .int .i8 o] w (Yes w) := by
  have hob : -128 ≤ o ∧ o ≤ 127 := bounds_i8 hw
  clear hw
  obtain ⟨n, hn⟩ : ∃ n : Nat, (n : Int) = 505 + o := ⟨(505 + o).toNat, by omega⟩
  obtain ⟨k, hk0, hk⟩ := or_one_val m hm
  have HK := Lib.hid hk
  obtain ⟨w1, hmk, o1, g1⟩ := run_zeros_bs bt w w.heap.size .i64 .i64 n (by omega) (Nat.le_refl _)
  rw [hn] at hmk
  have b1 : Below w.heap.size w w1 := (Below.refl _ _).grown g1 (Nat.le_refl _) (fun _ h => by cases h)
  have hob1 := hob.1
  have hob2 := hob.2
  have HN := Lib.hid hn
  clear g1 hk hn hob
  by_cases hp : 0 < o
  · go_enter Try.func6, Try.ntmps6
    go_wp2_with fail
    rw [HK.out]
    refine (blkSeal_many k _ o1.bs hk0 (by have := HN.out; rw [List.length_replicate]; omega)).mono ?_
    rintro e w2 ⟨rfl, rfl⟩
    go_wp2_with fail
    refine (works_any _).mono ?_
    rintro e w3 ⟨rfl, b3⟩
    go_wp2
    go_ret
    exact ⟨rfl, b1.trans (b3.mono b1.size)⟩
  · have hle : n ≤ 505 := by have := HN.out; omega
    go_enter Try.func6, Try.ntmps6
    go_wp2_with fail
    rw [HK.out]
    refine (blkSeal_ok k _ o1.bs hk0 (by rw [List.length_replicate]; exact hle)).mono ?_
    rintro e w2 ⟨v2, rfl, o2, b2⟩
    have b2' := b1.trans (b2.mono b1.size)
    go_wp2_with fail
    refine (blkOpen_any _ o2.bs).mono ?_
    rintro e w3 ⟨v3, he, o3, b3⟩
    have hos := open_seal (body := List.replicate n 0) hk0 (by rw [List.length_replicate]; exact hle)
    rw [hos] at he o3
    subst he
    have b3' := b2'.trans (b3.mono b2'.size)
    obtain ⟨p3, c3, hv3, -⟩ := o3.bs.shape
    rw [List.length_replicate] at hv3
    subst hv3
    have hnn := HN.out
    clear o1 o2 o3 b1 b2 b2' b3 hos
    go_wp2_with fail
    refine (works_any _).mono ?_
    rintro e w4 ⟨rfl, b4⟩
    go_wp2
    go_ret
    exact ⟨rfl, b3'.trans (b4.mono b3'.size)⟩
end Go.Proofs.Ytnhpdpplkjfjhaa
