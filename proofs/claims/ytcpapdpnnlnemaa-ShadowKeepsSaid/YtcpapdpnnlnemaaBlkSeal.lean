/- Contracts of block.Seal and of what it calls: each answers as the chapter says and writes nothing that was there; conditions: the lengths that each contract names. -/
import Derived.Test.YtcpapdpnnlnemaaBlkPlain
import Derived.Test.YtcpapdpnnlnemaaBlkArr
import Derived.Test.YtcpapdpnnlnemaaOcPut
import Derived.Test.YtcpapdpnnlnemaaHeldLast
namespace Go.Proofs.Ytcpapdpnnlnemaa
open Go.RowKit

/-! ### a word's bytes turned round -/
theorem or_add {a b K : Nat} (k : Nat) (hK : K = 2 ^ k) (h : a < K) : a ||| b * K = a + b * K := by
  subst hK
  rw [Nat.mul_comm b, Nat.or_comm, ← Nat.two_pow_add_eq_or_of_lt h, Nat.add_comm]

theorem and_mask (s : Nat) : s &&& 16711935 = s % 256 + s / 65536 % 256 * 65536 := by
  have e1 : (16711935 : Nat) = (2 ^ 8 - 1) ||| (2 ^ 8 - 1) * 2 ^ 16 := by decide
  have e2 : s &&& (2 ^ 8 - 1) * 2 ^ 16 = s / 65536 % 256 * 65536 := by
    apply Nat.eq_of_testBit_eq
    intro i
    rw [show s / 65536 % 256 * 65536 = s / 2 ^ 16 % 2 ^ 8 * 2 ^ 16 from rfl]
    rw [Nat.testBit_and, Nat.testBit_mul_two_pow, Nat.testBit_mul_two_pow, Nat.testBit_two_pow_sub_one, Nat.testBit_mod_two_pow, Nat.testBit_div_two_pow]
    by_cases h1 : 16 ≤ i
    · rw [show i - 16 + 16 = i by omega]
      simp [h1, Bool.and_comm]
    · simp [h1]
  rw [e1, Nat.and_or_distrib_left, Nat.and_two_pow_sub_one_eq_mod, e2, show s % 2 ^ 8 = s % 256 from rfl, or_add 16 rfl (by omega)]

def rev32 (s : Nat) : Nat := s % 256 * 16777216 + s / 256 % 256 * 65536 + s / 65536 % 256 * 256 + s / 16777216

theorem rev32_lt {s : Nat} (h : s < 4294967296) : rev32 s < 4294967296 := by unfold rev32; omega

theorem ofNat_mod {a b : Nat} (h : a % 256 = b % 256) : UInt8.ofNat a = UInt8.ofNat b := by
  apply UInt8.toNat_inj.1
  rw [UInt8.toNat_ofNat', UInt8.toNat_ofNat']
  exact h

theorem beL_rev (s : Nat) (h : s < 4294967296) : beL (rev32 s) 4 = four s := by
  have key : ∀ b0 b1 b2 b3 : Nat, b0 < 256 → b1 < 256 → b2 < 256 → b3 < 256 → (b0 * 16777216 + b1 * 65536 + b2 * 256 + b3) / 16777216 % 256 = b0 ∧ (b0 * 16777216 + b1 * 65536 + b2 * 256 + b3) / 65536 % 256 = b1 ∧
      (b0 * 16777216 + b1 * 65536 + b2 * 256 + b3) / 256 % 256 = b2 ∧ (b0 * 16777216 + b1 * 65536 + b2 * 256 + b3) % 256 = b3 := by
    intro b0 b1 b2 b3 h0 h1 h2 h3
    refine ⟨by omega, by omega, by omega, by omega⟩
  obtain ⟨e0, e1, e2, e3⟩ := key (s % 256) (s / 256 % 256) (s / 65536 % 256) (s / 16777216) (by omega) (by omega) (by omega) (by omega)
  have e3 : rev32 s % 256 = s / 16777216 % 256 := by unfold rev32; rw [e3]; omega
  have e0 : rev32 s / 16777216 % 256 = s % 256 := e0
  have e1 : rev32 s / 65536 % 256 = s / 256 % 256 := e1
  have e2 : rev32 s / 256 % 256 = s / 65536 % 256 := e2
  simp only [beL, four, Nat.reduceMul, Nat.reducePow, Nat.div_one]
  rw [ofNat_mod e0, ofNat_mod e1, ofNat_mod e2, ofNat_mod e3]

theorem or_swap (a p q r : Nat) : (a ||| q) ||| (p ||| r) = ((a ||| p) ||| q) ||| r := by
  rw [Nat.or_assoc, ← Nat.or_assoc q, Nat.or_comm q p, Nat.or_assoc p, ← Nat.or_assoc a p, ← Nat.or_assoc]

theorem or_bytes (a0 a1 a2 a3 : Nat) (h0 : a0 < 256) (h1 : a1 < 256) (h3 : a3 < 256) :
    (a1 + a3 * 65536) ||| (a0 + a2 * 65536) * 256 = a1 + a0 * 256 + a3 * 65536 + a2 * 16777216 := by
  have e : (a0 + a2 * 65536) * 256 = a0 * 256 + a2 * 16777216 := by omega
  rw [e, ← or_add (a := a1) (b := a3) (K := 65536) 16 rfl (by omega), ← or_add (a := a0 * 256) (b := a2) (K := 16777216) 24 rfl (by omega),
    ← or_add (a := a1 + a0 * 256 + a3 * 65536) (b := a2) (K := 16777216) 24 rfl (by omega), ← or_add (a := a1 + a0 * 256) (b := a3) (K := 65536) 16 rfl (by omega), ← or_add (a := a1) (b := a0) (K := 256) 8 rfl (by omega)]
  exact or_swap _ _ _ _

theorem rev_bits (s : Nat) (h : s < 4294967296) :
    bits .or .u32 (bits .or .u32 (bits .and .u32 ((s : Int) / 256) 16711935) (bits .and .u32 (s : Int) 16711935 * 256 % 4294967296) / 65536)
      (bits .or .u32 (bits .and .u32 ((s : Int) / 256) 16711935) (bits .and .u32 (s : Int) 16711935 * 256 % 4294967296) * 65536 % 4294967296) = ((rev32 s : Nat) : Int) := by
  have a1 := u32_and_nat s 16711935 h (by decide)
  have a2 := u32_and_nat (s / 256) 16711935 (by omega) (by decide)
  rw [and_mask] at a1 a2
  rw [show ((16711935 : Nat) : Int) = 16711935 from rfl] at a1 a2
  rw [Int.natCast_ediv, show ((256 : Nat) : Int) = 256 from rfl] at a2
  rw [a1, a2]
  have d2 : s / 256 / 65536 % 256 = s / 16777216 := by omega
  rw [d2]
  have e0 : s % 256 < 256 := by omega
  have e1 : s / 256 % 256 < 256 := by omega
  have e2 : s / 65536 % 256 < 256 := by omega
  have e3 : s / 16777216 < 256 := by omega
  unfold rev32
  generalize s % 256 = b0 at *
  generalize s / 256 % 256 = b1 at *
  generalize s / 65536 % 256 = b2 at *
  generalize s / 16777216 = b3 at *
  have f1 : ((b0 + b2 * 65536 : Nat) : Int) * 256 % 4294967296 = (((b0 + b2 * 65536) * 256 : Nat) : Int) := by omega
  rw [f1, u32_or_nat _ _ (by omega) (by omega), or_bytes b0 b1 b2 b3 e0 e1 e3]
  have f2 : ((b1 + b0 * 256 + b3 * 65536 + b2 * 16777216 : Nat) : Int) / 65536 = ((b3 + b2 * 256 : Nat) : Int) := by omega
  have f3 : ((b1 + b0 * 256 + b3 * 65536 + b2 * 16777216 : Nat) : Int) * 65536 % 4294967296 = (((b1 + b0 * 256) * 65536 : Nat) : Int) := by omega
  rw [f2, f3, u32_or_nat _ _ (by omega) (by omega), or_add 16 rfl (by omega)]
  congr 1
  omega

set_option maxHeartbeats 400000 in
theorem reverse_any (s : Nat) (w : World) (hs : s < 4294967296) :
    Calls Try.prog 57 #[.int .u32 (s : Int)] w fun e w' => e = .returned (.int .u32 (rev32 s : Nat)) ∧ w = w' := by
  have H := Lib.hid (rev_bits s hs)
  go_enter Try.func57, Try.ntmps57
  go_wp2
  go_ret
  exact ⟨by rw [← H.out]; rfl, rfl⟩

set_option maxHeartbeats 400000 in
theorem blkLowest_any (s : Nat) (w : World) (hs : s < 4294967296) :
    Calls Try.prog 46 #[.int .u32 (s : Int)] w (Gives w (four s)) := by
  have hr := rev32_lt hs
  have H := Lib.hid (beL_rev s hs)
  go_enter Try.func46, Try.ntmps46
  go_wp2_with fail
  refine (reverse_any s _ hs).mono ?_
  rintro e w1 ⟨rfl, rfl⟩
  generalize rev32 s = r at *
  go_wp2_with fail
  refine (put_any r 4 _ (Bs.nil _) (by simp)).mono ?_
  rintro e w1 ⟨v, rfl, ho, hb⟩
  have ho' : Ow w1 w.heap.size 5 v (four s) := by rw [← H.out]; exact ho
  go_wp2
  go_ret
  exact ⟨_, rfl, ho', hb⟩

/-! ### Seal -/
theorem zero_block : ∀ w : World, (zeroValue 84).run Try.prog w = .ok (.agg (bvs (List.replicate 512 0)).toArray) w := fun w => by kernel_rfl

/-- What Seal answers. -/
def SealsOk (w : World) (k : UInt8) (l : List UInt8) (e : Ending) (w' : World) : Prop :=
  ∃ v, e = .returned (.tuple #[v, .int .i64 0]) ∧ Ow w' w.heap.size 84 v (sealL k l) ∧ Below w.heap.size w w'

theorem splice_at (a b c m : List UInt8) (o : Nat) (ha : a.length = o) (hb : b.length = m.length) : splice (a ++ (b ++ c)) o m = a ++ (m ++ c) := by
  subst ha
  unfold splice
  rw [List.take_left, ← hb, ← List.append_assoc a b c, show a.length + b.length = (a ++ b).length by simp, List.drop_left]

set_option maxHeartbeats 1000000 in
theorem blkSeal_ok {b : Value} {l : List UInt8} (k : UInt8) (w : World) (hb : Bs w b l) (h0 : k ≠ 0) (hl : l.length ≤ 505) :
    Calls Try.prog 27 #[.int .u8 (k.toNat : Int), b] w (SealsOk w k l) := by
  have hk : ¬ (k.toNat : Int) = 0 := fun h => h0 (UInt8.toNat_inj.1 (by rw [show (0 : UInt8).toNat = 0 from rfl]; omega))
  obtain ⟨a, cap, rfl, hb⟩ := hb.shape
  obtain ⟨Z, hZ⟩ : ∃ Z, Z = List.replicate 512 (0 : UInt8) := ⟨_, rfl⟩
  have hz := zero_block
  rw [← hZ] at hz
  have HZ := Lib.hid hZ
  clear hZ
  have hA := Arr.new w 84 Z
  have hbl := (Below.refl w.heap.size w).alloc (Nat.le_refl _) (.cells (bvs Z).toArray 84)
  have hc := hA.cell 0 (by rw [HZ.out, List.length_replicate]; decide)
  go_enter Try.func27, Try.ntmps27
  go_wp2_with fail
  have e1 : (bvs Z).set 0 (Value.int .u8 (k.toNat : Int)) = bvs ([k] ++ (List.replicate 2 0 ++ List.replicate 509 0)) := by
    rw [HZ.out]
    rfl
  rw [e1]
  have A1 := Arr.new w 84 ([k] ++ (List.replicate 2 0 ++ List.replicate 509 0))
  have b1 := (Below.refl w.heap.size w).alloc (Nat.le_refl _) (.cells (bvs ([k] ++ (List.replicate 2 0 ++ List.replicate 509 0))).toArray 84)
  clear e1 hc hA hbl hz HZ
  generalize w.alloc (.cells (bvs ([k] ++ (List.replicate 2 0 ++ List.replicate 509 0))).toArray 84) = w1 at *
  have hS : True := trivial
  have hw64 : IntKind.u64.wrap (l.length : Int) = l.length := IntWalk.u64_in _ (by omega)
  refine region_till 99 (fun _ => True) (by kernel_rfl) hS (fun hS => ?_)
  refine take_till (i := 0) (some 14) (.slice (some ⟨w.heap.size, 1, none⟩) 511 511) rfl rfl (by kernel_rfl) (by kernel_rfl) (by kernel_rfl) (by kernel_rfl) (by decide) (fun _ _ _ h => h) (by rfl) (fun W hW => ?_) hS ?_
  · skip
    clear hW
    go_simp
  simp only [Act.put, List.setIfInBounds_toArray, List.set_cons_zero, List.set_cons_succ]
  refine take_till (i := 1) (some 15) (.slice a l.length cap) rfl rfl (by kernel_rfl) (by kernel_rfl) (by kernel_rfl) (by kernel_rfl) (by decide) (fun _ _ _ h => h) (by rfl) (fun W hW => ?_) hS ?_
  · skip
    clear hW
    go_simp
  simp only [Act.put, List.setIfInBounds_toArray, List.set_cons_zero, List.set_cons_succ]
  refine take_till (i := 2) (some 16) (.int .i64 l.length) rfl rfl (by kernel_rfl) (by kernel_rfl) (by kernel_rfl) (by kernel_rfl) (by decide) (fun _ _ _ h => h) (by rfl) (fun W hW => ?_) hS ?_
  · skip
    clear hW
    go_simp
  simp only [Act.put, List.setIfInBounds_toArray, List.set_cons_zero, List.set_cons_succ]
  refine take_till (i := 3) (some 17) (.int .u64 l.length) rfl rfl (by kernel_rfl) (by kernel_rfl) (by kernel_rfl) (by kernel_rfl) (by decide) (fun _ _ _ h => h) (by rfl) (fun W hW => ?_) hS ?_
  · skip
    clear hW
    go_simp
  simp only [Act.put, List.setIfInBounds_toArray, List.set_cons_zero, List.set_cons_succ]
  refine next_till 4 (by kernel_rfl) rfl (fun K hK => ?_)
  go_simp
  have b1d : Below w.heap.size w w1.drew := below_drewN b1 1
  have A1d : Arr w1.drew w.heap.size 84 _ := A1
  have hlt : w.heap.size < w1.drew.heap.size := A1.lt
  clear A1 b1
  generalize w1.drew = w2 at *
  refine (put_any l.length 2 _ (Bs.nil _) (by simp)).mono ?_
  rintro e w3 ⟨v3, rfl, o3, b3⟩
  have A3 := A1d.below b3 hlt
  have o3' : Bs w3 v3 (beL l.length 2) := o3.bs
  have b3' := b1d.trans (b3.mono b1d.size)
  clear A1d b1d b3 o3 hlt
  refine hK.out _ _ (fun _ => trivial) ?_
  clear hK K
  refine next_till 5 (by kernel_rfl) rfl (fun K hK => ?_)
  refine step_copy_bs bt rfl (.tmp 14) (.tmp 18) rfl w.heap.size 1 511 511 84 _ _ v3 rfl rfl o3' A3 (by rw [beL_length]; decide) (by simp only [List.length_append, List.length_replicate, beL_length, List.length_cons, List.length_nil]; omega) w.heap.size w b3' (Nat.le_refl _) ?_
  intro w4 A4 b4
  rw [splice_at [k] (List.replicate 2 0) (List.replicate 509 0) (beL l.length 2) 1 rfl (by simp [beL_length])] at A4
  clear A3 b3' o3'
  refine hK.out _ _ (fun _ => trivial) ?_
  simp only [Act.put, List.setIfInBounds_toArray]
  clear hK K
  refine done_till (by kernel_rfl) ?_ _
  have hb4 : Bs w4 (.slice a l.length cap) l := hb.below b4
  have e4 : [k] ++ (beL l.length 2 ++ List.replicate 509 0) = ([k] ++ beL l.length 2) ++ (List.replicate l.length 0 ++ (List.replicate (505 - l.length) 0 ++ List.replicate 4 0)) := by
    rw [← List.append_assoc, ← List.append_assoc (List.replicate l.length 0), List.replicate_append_replicate, List.replicate_append_replicate]
    congr 2
    omega
  rw [e4] at A4
  have hin4 : 3 + l.length ≤ (([k] ++ beL l.length 2) ++ (List.replicate l.length 0 ++ (List.replicate (505 - l.length) 0 ++ List.replicate 4 0))).length := by simp [beL_length]; omega
  have hfit4 : l.length ≤ 509 := by omega
  clear e4
  go_wp2_with (refine wpList_copy_bs bt rfl (.tmp 20) (.tmp 21) rfl w.heap.size 3 509 509 84 _ _ (.slice a l.length cap) rfl rfl hb4 A4 hfit4 hin4 w.heap.size w b4 (Nat.le_refl _) ?_; intro w5 A5 b5)
  rw [splice_at ([k] ++ beL l.length 2) (List.replicate l.length 0) _ l 3 (by simp [beL_length]) (by simp)] at A5
  clear A4 b4 hb4 hin4 hfit4
  rw [← List.append_assoc l, ← List.append_assoc, show [k] ++ beL l.length 2 ++ (l ++ List.replicate (505 - l.length) 0) = aheadL k l by simp [aheadL]] at A5
  have hal := aheadL_length (k := k) hl
  have hsn := sumN_lt (aheadL k l)
  have s5 : Bs w5 (.slice (some ⟨w.heap.size, 0, none⟩) 508 512) (aheadL k l) := by
    have := A5.bs 0 508 512 (by rw [List.length_append, hal]; decide) (by decide) (by decide)
    rw [List.drop_zero, show List.take 508 (aheadL k l ++ List.replicate 4 0) = aheadL k l by rw [← hal, List.take_left]] at this
    exact this
  have HF := Lib.hid (show aheadL k l ++ four (sumN (aheadL k l)) = sealL k l from rfl)
  have HL := Lib.hid (sealL_length (k := k) hl)
  generalize aheadL k l = h at *
  have Hal := Lib.hid hal
  clear hal
  simp only [Act.put, List.setIfInBounds_toArray, List.set_cons_zero, List.set_cons_succ]
  refine region_till 99 (fun _ => True) (by kernel_rfl) hS (fun hS => ?_)
  refine take_till (i := 0) (some 23) (.slice (some ⟨w.heap.size, 508, none⟩) 4 4) rfl rfl (by kernel_rfl) (by kernel_rfl) (by kernel_rfl) (by kernel_rfl) (by decide) (fun _ _ _ h => h) (by rfl) (fun W hW => ?_) hS ?_
  · skip
    clear hW
    go_simp
  simp only [Act.put, List.setIfInBounds_toArray, List.set_cons_zero, List.set_cons_succ]
  refine take_till (i := 1) (some 24) (.slice (some ⟨w.heap.size, 0, none⟩) 508 512) rfl rfl (by kernel_rfl) (by kernel_rfl) (by kernel_rfl) (by kernel_rfl) (by decide) (fun _ _ _ h => h) (by rfl) (fun W hW => ?_) hS ?_
  · skip
    clear hW
    go_simp
  simp only [Act.put, List.setIfInBounds_toArray, List.set_cons_zero, List.set_cons_succ]
  refine next_till 2 (by kernel_rfl) rfl (fun K hK => ?_)
  go_simp
  have b5d : Below w.heap.size w w5.drew := below_drewN b5 1
  have A5d : Arr w5.drew w.heap.size 84 _ := A5
  have s5d : Bs w5.drew (.slice (some ⟨w.heap.size, 0, none⟩) 508 512) h := s5.drewN 1
  clear A5 b5 s5
  generalize w5.drew = w6 at *
  refine (sum_any _ s5d).mono ?_
  rintro e w7 ⟨rfl, rfl⟩
  generalize sumN h = s at *
  refine hK.out _ _ (fun _ => trivial) ?_
  clear hK K
  refine next_till 3 (by kernel_rfl) rfl (fun K hK => ?_)
  go_simp
  refine (blkLowest_any s _ hsn).mono ?_
  rintro e w7 ⟨v7, rfl, o7, b7⟩
  have A7 := A5d.below b7 A5d.lt
  have o7' : Bs w7 v7 (four s) := o7.bs
  have b7' := b5d.trans (b7.mono b5d.size)
  clear A5d b5d b7 o7 s5d
  refine hK.out _ _ (fun _ => trivial) ?_
  clear hK K
  refine next_till 4 (by kernel_rfl) rfl (fun K hK => ?_)
  refine step_copy_bs bt rfl (.tmp 23) (.tmp 26) rfl w.heap.size 508 4 4 84 _ _ v7 rfl rfl o7' A7 (Nat.le_refl 4) (by rw [List.length_append, Hal.out]; exact Nat.le_refl 512) w.heap.size w b7' (Nat.le_refl _) ?_
  intro w8 A8 b8
  have e8 := splice_at h (List.replicate 4 0) [] (four s) 508 Hal.out rfl
  rw [List.append_nil, List.append_nil] at e8
  rw [e8, HF.out] at A8
  clear A7 b7' o7' e8
  refine hK.out _ _ (fun _ => trivial) ?_
  simp only [Act.put, List.setIfInBounds_toArray]
  clear hK K
  refine done_till (by kernel_rfl) ?_ _
  have o8 := A8.ow (base := w.heap.size) (Nat.le_refl _) (by rw [HL.out]; decide)
  rw [HL.out] at o8
  go_wp2
  go_ret2
  exact ⟨_, rfl, o8, b8⟩

set_option maxHeartbeats 400000 in
theorem blkSeal_zero {b : Value} {l : List UInt8} (w : World) (hb : Bs w b l) :
    Calls Try.prog 27 #[.int .u8 0, b] w fun e w' => e = .returned (.tuple #[.slice none 0 0, .int .i64 1]) ∧ w = w' := by
  obtain ⟨a, cap, rfl, hb⟩ := hb.shape
  go_enter Try.func27, Try.ntmps27
  go_wp2
  go_ret2
  exact ⟨rfl, rfl⟩

set_option maxHeartbeats 400000 in
theorem blkSeal_many {b : Value} {l : List UInt8} (k : UInt8) (w : World) (hb : Bs w b l) (h0 : k ≠ 0) (hl : 505 < l.length) :
    Calls Try.prog 27 #[.int .u8 (k.toNat : Int), b] w fun e w' => e = .returned (.tuple #[.slice none 0 0, .int .i64 6]) ∧ w = w' := by
  have hk : ¬ (k.toNat : Int) = 0 := fun h => h0 (UInt8.toNat_inj.1 (by rw [show (0 : UInt8).toNat = 0 from rfl]; omega))
  obtain ⟨a, cap, rfl, hb⟩ := hb.shape
  go_enter Try.func27, Try.ntmps27
  go_wp2
  go_ret2
  exact ⟨rfl, rfl⟩
end Go.Proofs.Ytcpapdpnnlnemaa
