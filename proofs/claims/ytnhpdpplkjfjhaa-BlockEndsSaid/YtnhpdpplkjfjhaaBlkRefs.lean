/- Contracts of the document's answers for layer 4: each answers as the chapter says and writes nothing that was there; conditions: the lengths that each contract names. -/
import Derived.Test.YtnhpdpplkjfjhaaBlkPlain
import Derived.Test.YtnhpdpplkjfjhaaOcRefPut
namespace Go.Proofs.Ytnhpdpplkjfjhaa
open Go.RowKit

/-- What the document's Seal answers. -/
def SealsR (w : World) (k : UInt8) (l : List UInt8) (e : Ending) (w' : World) : Prop :=
  ∃ v, e = .returned (.tuple #[v, .int .i64 0]) ∧ Ow w' w.heap.size 5 v (sealL k l) ∧ Below w.heap.size w w'

theorem toNat_ne {k : UInt8} (h0 : k ≠ 0) : ¬ (k.toNat : Int) = 0 := fun h => h0 (UInt8.toNat_inj.1 (by rw [show (0 : UInt8).toNat = 0 from rfl]; omega))

set_option maxHeartbeats 400000 in
theorem refSeal_zero {b : Value} {l : List UInt8} (w : World) (hb : Bs w b l) :
    Calls Try.prog 11 #[.int .u8 0, b] w fun e w' => e = .returned (.tuple #[.slice none 0 0, .int .i64 1]) ∧ w = w' := by
  obtain ⟨a, cap, rfl, hb⟩ := hb.shape
  go_enter Try.func11, Try.ntmps11
  go_wp2
  go_ret2
  exact ⟨rfl, rfl⟩

set_option maxHeartbeats 400000 in
theorem refSeal_many {b : Value} {l : List UInt8} (k : UInt8) (w : World) (hb : Bs w b l) (h0 : k ≠ 0) (hl : 505 < l.length) :
    Calls Try.prog 11 #[.int .u8 (k.toNat : Int), b] w fun e w' => e = .returned (.tuple #[.slice none 0 0, .int .i64 6]) ∧ w = w' := by
  have hk := toNat_ne h0
  obtain ⟨a, cap, rfl, hb⟩ := hb.shape
  go_enter Try.func11, Try.ntmps11
  go_wp2
  go_ret2
  exact ⟨rfl, rfl⟩

def lenV (v : Value) : Nat := match v with | .slice _ n _ => n | _ => 0

theorem append_zero (h : List UInt8) (j : Nat) : h ++ List.replicate j 0 ++ [0] = h ++ List.replicate (j + 1) 0 := by
  rw [List.append_assoc, List.replicate_succ']

set_option maxHeartbeats 1000000 in
theorem refSeal_ok {b : Value} {l : List UInt8} (k : UInt8) (w : World) (hb : Bs w b l) (h0 : k ≠ 0) (hl : l.length ≤ 505) :
    Calls Try.prog 11 #[.int .u8 (k.toNat : Int), b] w (SealsR w k l) := by
  have hk := toNat_ne h0
  obtain ⟨a, cap, rfl, hb⟩ := hb.shape
  have hw64 : IntKind.u64.wrap (l.length : Int) = l.length := IntWalk.u64_in _ (by omega)
  have hk1 := Bs.new1 w 5 (.int .u8 (k.toNat : Int)) k rfl
  have bk := (Below.refl w.heap.size w).alloc (Nat.le_refl _) (.cells #[.int .u8 (k.toNat : Int)] 5)
  have HA := Lib.hid (show aheadL k l = (k :: beL l.length 2 ++ l) ++ List.replicate (505 - l.length) 0 by simp [aheadL])
  have HS := Lib.hid (show aheadL k l ++ four (sumN (aheadL k l)) = sealL k l from rfl)
  have HN := Lib.hid (show (k :: beL l.length 2 ++ l).length = 3 + l.length by simp [beL_length]; omega)
  have hsn := sumN_lt (aheadL k l)
  have hal := Lib.hid (aheadL_length (k := k) hl)
  go_enter Try.func11, Try.ntmps11
  go_wp2_with fail
  refine (refPut_any l.length 2 _ hk1 (by simp)).mono ?_
  rintro e w1 ⟨v1, rfl, o1, b1⟩
  have bk1 := bk.trans (b1.mono bk.size)
  have o1' : Ow w1 w.heap.size 5 v1 (k :: beL l.length 2) := o1.mono bk.size
  have hb1 := hb.below bk1
  have hs1 : (k :: beL l.length 2).length + l.length ≤ 140737488355328 := by simp [beL_length]; omega
  have hz1 := bk1.size
  clear o1 b1 bk hk1
  go_wp2_with (at_builtin; refine wpList_append_bs bt rfl (.tmp 18) (.tmp 19) rfl w.heap.size rfl rfl o1' hb1 hs1 hz1 ?_; intro v2 w2 o2 g2)
  have b2 := below_own bk1 o1' g2
  clear o1' hb1 hs1 hz1 g2 bk1
  generalize k :: beL l.length 2 ++ l = h at *
  go_loopw [6] (fun s wr => ∃ j : Nat, j ≤ 505 - l.length ∧ Ow wr w.heap.size 5 s (h ++ List.replicate j 0) ∧ Below w.heap.size w wr) (fun s _ => 508 - lenV s)
  case atStart => exact ⟨0, by omega, by simpa using o2, b2⟩
  case round =>
    obtain ⟨j, hj, oj, bj⟩ := hrel
    have hjl : (h ++ List.replicate j 0).length = 3 + l.length + j := by simp [HN.out]
    by_cases hlt : j < 505 - l.length
    · have bj' := bj.alloc bj.size (.cells #[.int .u8 0] 5)
      have oj' := oj.below ((Below.refl _ _).alloc (Nat.le_refl _) (.cells #[.int .u8 0] 5))
      have hn1 := Bs.new1 wr 5 (.int .u8 0) 0 rfl
      have hs : (h ++ List.replicate j 0).length + [(0 : UInt8)].length ≤ 140737488355328 := by rw [hjl]; simp; omega
      have hz := bj'.size
      obtain ⟨pa, pc, hv, -⟩ := oj'.bs.shape
      obtain ⟨n, hn⟩ : ∃ n, n = (h ++ List.replicate j 0).length := ⟨_, rfl⟩
      rw [← hn] at hv
      subst hv
      have hjj : (n : Int) < 508 := by omega
      have hnn : n < 508 := by omega
      have Hjl := Lib.hid (And.intro hjl hn)
      clear hjl hn
      go_wp2_with (at_builtin; refine wpList_append_bs bt rfl (.tmp 24) (.tmp 25) rfl w.heap.size rfl rfl oj' hn1 hs hz ?_; intro v3 w3 o3 g3)
      have b3 := below_own bj' oj' g3
      rw [append_zero] at o3
      obtain ⟨pa3, pc3, hv3, -⟩ := o3.bs.shape
      have hl3 : (h ++ List.replicate (j + 1) 0).length = 3 + l.length + (j + 1) := by simp [HN.out]
      go_roundw
      case rel => exact ⟨j + 1, by omega, o3, b3⟩
      case measure =>
        have e1 := Hjl.out.1
        have e2 := Hjl.out.2
        rw [hv3, hl3]
        simp [lenV]
        omega
    · obtain rfl : j = 505 - l.length := by omega
      rw [← HA.out] at oj
      obtain ⟨pa, pc, hv, -⟩ := oj.bs.shape
      rw [hal.out] at hv
      subst hv
      clear hjl
      go_wp2_with fail
      refine (refSum_any _ oj.bs).mono ?_
      rintro e w3 ⟨rfl, rfl⟩
      have hf := four_cells (sumN (aheadL k l)) hsn
      have HT := HS.out
      generalize sumN (aheadL k l) = t at *
      generalize aheadL k l = hd at *
      have hb2 := bs_lit wr _ (four t) 4 hf rfl (by simp [four])
      have bz := bj.alloc bj.size (.cells #[.int .u8 ((t : Int) % 256), .int .u8 ((t : Int) / 256 % 256), .int .u8 ((t : Int) / 65536 % 256), .int .u8 ((t : Int) / 16777216)] 5)
      have oz := oj.below ((Below.refl _ _).alloc (Nat.le_refl _) (.cells #[.int .u8 ((t : Int) % 256), .int .u8 ((t : Int) / 256 % 256), .int .u8 ((t : Int) / 65536 % 256), .int .u8 ((t : Int) / 16777216)] 5))
      have hs2 : hd.length + (four t).length ≤ 140737488355328 := by rw [hal.out, four_length]; decide
      have hz2 := bz.size
      clear hf
      have HT2 := Lib.hid HT
      clear HT HS HA
      go_wp2_with (at_builtin; refine wpList_append_bs bt rfl (.tmp 29) (.tmp 41) rfl w.heap.size rfl rfl oz hb2 hs2 hz2 ?_; intro v4 w4 o4 g4)
      go_ret2
      rw [HT2.out] at o4
      exact ⟨_, rfl, o4, below_own bz oz g4⟩
end Go.Proofs.Ytnhpdpplkjfjhaa
