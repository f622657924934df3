/- Contracts of block.Seal and of what it calls: each answers as the chapter says and writes nothing that was there; conditions: the lengths that each contract names. · Contracts of block.Open and of what it calls: each answers as the chapter says and writes nothing that was there; conditions: the lengths that each contract names. · Contracts of package block for whatever comes in; own rows and what stays of a slice; no condition. -/
import Derived.Test.YtcpapdpnnlnemaaM02
import Derived.Test.YtcpapdpnnlnemaaM09
import Derived.Test.YtcpapdpnnlnemaaM03
namespace Go.Proofs.Ytcpapdpnnlnemaa
open Go.RowKit

/-! ### a word's bytes turned round -/
theorem or_add {a b K : Nat} (k : Nat) (hK : K = 2 ^ k) (h : a < K) : a ||| b * K = a + b * K := by
  subst hK
  rw [Nat.mul_comm b, Nat.or_comm, ← Nat.two_pow_add_eq_or_of_lt h, Nat.add_comm]

theorem and_mask (s : Nat) : s &&& 16711935 = s % 256 + s / 65536 % 256 * 65536 := by
  have e1 : (16711935 : Nat) = (2 ^ 8 - 1) ||| (2 ^ 8 - 1) * 2 ^ 16 := by decide
  have e2 : s &&& (2 ^ 8 - 1) * 2 ^ 16 = s / 65536 % 256 * 65536 := by
    apply Nat.eq_of_testBit_eq
    intro i
    rw [show s / 65536 % 256 * 65536 = s / 2 ^ 16 % 2 ^ 8 * 2 ^ 16 from rfl]
    rw [Nat.testBit_and, Nat.testBit_mul_two_pow, Nat.testBit_mul_two_pow, Nat.testBit_two_pow_sub_one, Nat.testBit_mod_two_pow, Nat.testBit_div_two_pow]
    by_cases h1 : 16 ≤ i
    · rw [show i - 16 + 16 = i by omega]
      simp [h1, Bool.and_comm]
    · simp [h1]
  rw [e1, Nat.and_or_distrib_left, Nat.and_two_pow_sub_one_eq_mod, e2, show s % 2 ^ 8 = s % 256 from rfl, or_add 16 rfl (by omega)]

def rev32 (s : Nat) : Nat := s % 256 * 16777216 + s / 256 % 256 * 65536 + s / 65536 % 256 * 256 + s / 16777216

theorem rev32_lt {s : Nat} (h : s < 4294967296) : rev32 s < 4294967296 := by unfold rev32; omega

theorem ofNat_mod {a b : Nat} (h : a % 256 = b % 256) : UInt8.ofNat a = UInt8.ofNat b := by
  apply UInt8.toNat_inj.1
  rw [UInt8.toNat_ofNat', UInt8.toNat_ofNat']
  exact h

theorem beL_rev (s : Nat) (h : s < 4294967296) : beL (rev32 s) 4 = four s := by
  have key : ∀ b0 b1 b2 b3 : Nat, b0 < 256 → b1 < 256 → b2 < 256 → b3 < 256 → (b0 * 16777216 + b1 * 65536 + b2 * 256 + b3) / 16777216 % 256 = b0 ∧ (b0 * 16777216 + b1 * 65536 + b2 * 256 + b3) / 65536 % 256 = b1 ∧
      (b0 * 16777216 + b1 * 65536 + b2 * 256 + b3) / 256 % 256 = b2 ∧ (b0 * 16777216 + b1 * 65536 + b2 * 256 + b3) % 256 = b3 := by
    intro b0 b1 b2 b3 h0 h1 h2 h3
    refine ⟨by omega, by omega, by omega, by omega⟩
  obtain ⟨e0, e1, e2, e3⟩ := key (s % 256) (s / 256 % 256) (s / 65536 % 256) (s / 16777216) (by omega) (by omega) (by omega) (by omega)
  have e3 : rev32 s % 256 = s / 16777216 % 256 := by unfold rev32; rw [e3]; omega
  have e0 : rev32 s / 16777216 % 256 = s % 256 := e0
  have e1 : rev32 s / 65536 % 256 = s / 256 % 256 := e1
  have e2 : rev32 s / 256 % 256 = s / 65536 % 256 := e2
  simp only [beL, four, Nat.reduceMul, Nat.reducePow, Nat.div_one]
  rw [ofNat_mod e0, ofNat_mod e1, ofNat_mod e2, ofNat_mod e3]

theorem or_swap (a p q r : Nat) : (a ||| q) ||| (p ||| r) = ((a ||| p) ||| q) ||| r := by
  rw [Nat.or_assoc, ← Nat.or_assoc q, Nat.or_comm q p, Nat.or_assoc p, ← Nat.or_assoc a p, ← Nat.or_assoc]

theorem or_bytes (a0 a1 a2 a3 : Nat) (h0 : a0 < 256) (h1 : a1 < 256) (h3 : a3 < 256) :
    (a1 + a3 * 65536) ||| (a0 + a2 * 65536) * 256 = a1 + a0 * 256 + a3 * 65536 + a2 * 16777216 := by
  have e : (a0 + a2 * 65536) * 256 = a0 * 256 + a2 * 16777216 := by omega
  rw [e, ← or_add (a := a1) (b := a3) (K := 65536) 16 rfl (by omega), ← or_add (a := a0 * 256) (b := a2) (K := 16777216) 24 rfl (by omega),
    ← or_add (a := a1 + a0 * 256 + a3 * 65536) (b := a2) (K := 16777216) 24 rfl (by omega), ← or_add (a := a1 + a0 * 256) (b := a3) (K := 65536) 16 rfl (by omega), ← or_add (a := a1) (b := a0) (K := 256) 8 rfl (by omega)]
  exact or_swap _ _ _ _

theorem rev_bits (s : Nat) (h : s < 4294967296) :
    bits .or .u32 (bits .or .u32 (bits .and .u32 ((s : Int) / 256) 16711935) (bits .and .u32 (s : Int) 16711935 * 256 % 4294967296) / 65536)
      (bits .or .u32 (bits .and .u32 ((s : Int) / 256) 16711935) (bits .and .u32 (s : Int) 16711935 * 256 % 4294967296) * 65536 % 4294967296) = ((rev32 s : Nat) : Int) := by
  have a1 := u32_and_nat s 16711935 h (by decide)
  have a2 := u32_and_nat (s / 256) 16711935 (by omega) (by decide)
  rw [and_mask] at a1 a2
  rw [show ((16711935 : Nat) : Int) = 16711935 from rfl] at a1 a2
  rw [Int.natCast_ediv, show ((256 : Nat) : Int) = 256 from rfl] at a2
  rw [a1, a2]
  have d2 : s / 256 / 65536 % 256 = s / 16777216 := by omega
  rw [d2]
  have e0 : s % 256 < 256 := by omega
  have e1 : s / 256 % 256 < 256 := by omega
  have e2 : s / 65536 % 256 < 256 := by omega
  have e3 : s / 16777216 < 256 := by omega
  unfold rev32
  generalize s % 256 = b0 at *
  generalize s / 256 % 256 = b1 at *
  generalize s / 65536 % 256 = b2 at *
  generalize s / 16777216 = b3 at *
  have f1 : ((b0 + b2 * 65536 : Nat) : Int) * 256 % 4294967296 = (((b0 + b2 * 65536) * 256 : Nat) : Int) := by omega
  rw [f1, u32_or_nat _ _ (by omega) (by omega), or_bytes b0 b1 b2 b3 e0 e1 e3]
  have f2 : ((b1 + b0 * 256 + b3 * 65536 + b2 * 16777216 : Nat) : Int) / 65536 = ((b3 + b2 * 256 : Nat) : Int) := by omega
  have f3 : ((b1 + b0 * 256 + b3 * 65536 + b2 * 16777216 : Nat) : Int) * 65536 % 4294967296 = (((b1 + b0 * 256) * 65536 : Nat) : Int) := by omega
  rw [f2, f3, u32_or_nat _ _ (by omega) (by omega), or_add 16 rfl (by omega)]
  congr 1
  omega

set_option maxHeartbeats 400000 in
theorem reverse_any (s : Nat) (w : World) (hs : s < 4294967296) :
    Calls Try.prog 57 #[.int .u32 (s : Int)] w fun e w' => e = .returned (.int .u32 (rev32 s : Nat)) ∧ w = w' := by
  have H := Lib.hid (rev_bits s hs)
  go_enter Try.func57, Try.ntmps57
  go_wp2
  go_ret
  exact ⟨by rw [← H.out]; rfl, rfl⟩

set_option maxHeartbeats 400000 in
theorem blkLowest_any (s : Nat) (w : World) (hs : s < 4294967296) :
    Calls Try.prog 46 #[.int .u32 (s : Int)] w (Gives w (four s)) := by
  have hr := rev32_lt hs
  have H := Lib.hid (beL_rev s hs)
  go_enter Try.func46, Try.ntmps46
  go_wp2_with fail
  refine (reverse_any s _ hs).mono ?_
  rintro e w1 ⟨rfl, rfl⟩
  generalize rev32 s = r at *
  go_wp2_with fail
  refine (put_any r 4 _ (Bs.nil _) (by simp)).mono ?_
  rintro e w1 ⟨v, rfl, ho, hb⟩
  have ho' : Ow w1 w.heap.size 5 v (four s) := by rw [← H.out]; exact ho
  go_wp2
  go_ret
  exact ⟨_, rfl, ho', hb⟩

/-! ### Seal -/
theorem zero_block : ∀ w : World, (zeroValue 84).run Try.prog w = .ok (.agg (bvs (List.replicate 512 0)).toArray) w := fun w => by kernel_rfl

/-- What Seal answers. -/
def SealsOk (w : World) (k : UInt8) (l : List UInt8) (e : Ending) (w' : World) : Prop :=
  ∃ v, e = .returned (.tuple #[v, .int .i64 0]) ∧ Ow w' w.heap.size 84 v (sealL k l) ∧ Below w.heap.size w w'

theorem splice_at (a b c m : List UInt8) (o : Nat) (ha : a.length = o) (hb : b.length = m.length) : splice (a ++ (b ++ c)) o m = a ++ (m ++ c) := by
  subst ha
  unfold splice
  rw [List.take_left, ← hb, ← List.append_assoc a b c, show a.length + b.length = (a ++ b).length by simp, List.drop_left]

set_option maxHeartbeats 1000000 in
theorem blkSeal_ok {b : Value} {l : List UInt8} (k : UInt8) (w : World) (hb : Bs w b l) (h0 : k ≠ 0) (hl : l.length ≤ 505) :
    Calls Try.prog 27 #[.int .u8 (k.toNat : Int), b] w (SealsOk w k l) := by
  have hk : ¬ (k.toNat : Int) = 0 := fun h => h0 (UInt8.toNat_inj.1 (by rw [show (0 : UInt8).toNat = 0 from rfl]; omega))
  obtain ⟨a, cap, rfl, hb⟩ := hb.shape
  obtain ⟨Z, hZ⟩ : ∃ Z, Z = List.replicate 512 (0 : UInt8) := ⟨_, rfl⟩
  have hz := zero_block
  rw [← hZ] at hz
  have HZ := Lib.hid hZ
  clear hZ
  have hA := Arr.new w 84 Z
  have hbl := (Below.refl w.heap.size w).alloc (Nat.le_refl _) (.cells (bvs Z).toArray 84)
  have hc := hA.cell 0 (by rw [HZ.out, List.length_replicate]; decide)
  go_enter Try.func27, Try.ntmps27
  go_wp2_with fail
  have e1 : (bvs Z).set 0 (Value.int .u8 (k.toNat : Int)) = bvs ([k] ++ (List.replicate 2 0 ++ List.replicate 509 0)) := by
    rw [HZ.out]
    rfl
  rw [e1]
  have A1 := Arr.new w 84 ([k] ++ (List.replicate 2 0 ++ List.replicate 509 0))
  have b1 := (Below.refl w.heap.size w).alloc (Nat.le_refl _) (.cells (bvs ([k] ++ (List.replicate 2 0 ++ List.replicate 509 0))).toArray 84)
  clear e1 hc hA hbl hz HZ
  generalize w.alloc (.cells (bvs ([k] ++ (List.replicate 2 0 ++ List.replicate 509 0))).toArray 84) = w1 at *
  have hS : True := trivial
  have hw64 : IntKind.u64.wrap (l.length : Int) = l.length := IntWalk.u64_in _ (by omega)
  refine region_till 99 (fun _ => True) (by kernel_rfl) hS (fun hS => ?_)
  refine take_till (i := 0) (some 14) (.slice (some ⟨w.heap.size, 1, none⟩) 511 511) rfl rfl (by kernel_rfl) (by kernel_rfl) (by kernel_rfl) (by kernel_rfl) (by decide) (fun _ _ _ h => h) (by rfl) (fun W hW => ?_) hS ?_
  · skip
    clear hW
    go_simp
  simp only [Act.put, List.setIfInBounds_toArray, List.set_cons_zero, List.set_cons_succ]
  refine take_till (i := 1) (some 15) (.slice a l.length cap) rfl rfl (by kernel_rfl) (by kernel_rfl) (by kernel_rfl) (by kernel_rfl) (by decide) (fun _ _ _ h => h) (by rfl) (fun W hW => ?_) hS ?_
  · skip
    clear hW
    go_simp
  simp only [Act.put, List.setIfInBounds_toArray, List.set_cons_zero, List.set_cons_succ]
  refine take_till (i := 2) (some 16) (.int .i64 l.length) rfl rfl (by kernel_rfl) (by kernel_rfl) (by kernel_rfl) (by kernel_rfl) (by decide) (fun _ _ _ h => h) (by rfl) (fun W hW => ?_) hS ?_
  · skip
    clear hW
    go_simp
  simp only [Act.put, List.setIfInBounds_toArray, List.set_cons_zero, List.set_cons_succ]
  refine take_till (i := 3) (some 17) (.int .u64 l.length) rfl rfl (by kernel_rfl) (by kernel_rfl) (by kernel_rfl) (by kernel_rfl) (by decide) (fun _ _ _ h => h) (by rfl) (fun W hW => ?_) hS ?_
  · skip
    clear hW
    go_simp
  simp only [Act.put, List.setIfInBounds_toArray, List.set_cons_zero, List.set_cons_succ]
  refine next_till 4 (by kernel_rfl) rfl (fun K hK => ?_)
  go_simp
  have b1d : Below w.heap.size w w1.drew := below_drewN b1 1
  have A1d : Arr w1.drew w.heap.size 84 _ := A1
  have hlt : w.heap.size < w1.drew.heap.size := A1.lt
  clear A1 b1
  generalize w1.drew = w2 at *
  refine (put_any l.length 2 _ (Bs.nil _) (by simp)).mono ?_
  rintro e w3 ⟨v3, rfl, o3, b3⟩
  have A3 := A1d.below b3 hlt
  have o3' : Bs w3 v3 (beL l.length 2) := o3.bs
  have b3' := b1d.trans (b3.mono b1d.size)
  clear A1d b1d b3 o3 hlt
  refine hK.out _ _ (fun _ => trivial) ?_
  clear hK K
  refine next_till 5 (by kernel_rfl) rfl (fun K hK => ?_)
  refine step_copy_bs bt rfl (.tmp 14) (.tmp 18) rfl w.heap.size 1 511 511 84 _ _ v3 rfl rfl o3' A3 (by rw [beL_length]; decide) (by simp only [List.length_append, List.length_replicate, beL_length, List.length_cons, List.length_nil]; omega) w.heap.size w b3' (Nat.le_refl _) ?_
  intro w4 A4 b4
  rw [splice_at [k] (List.replicate 2 0) (List.replicate 509 0) (beL l.length 2) 1 rfl (by simp [beL_length])] at A4
  clear A3 b3' o3'
  refine hK.out _ _ (fun _ => trivial) ?_
  simp only [Act.put, List.setIfInBounds_toArray]
  clear hK K
  refine done_till (by kernel_rfl) ?_ _
  have hb4 : Bs w4 (.slice a l.length cap) l := hb.below b4
  have e4 : [k] ++ (beL l.length 2 ++ List.replicate 509 0) = ([k] ++ beL l.length 2) ++ (List.replicate l.length 0 ++ (List.replicate (505 - l.length) 0 ++ List.replicate 4 0)) := by
    rw [← List.append_assoc, ← List.append_assoc (List.replicate l.length 0), List.replicate_append_replicate, List.replicate_append_replicate]
    congr 2
    omega
  rw [e4] at A4
  have hin4 : 3 + l.length ≤ (([k] ++ beL l.length 2) ++ (List.replicate l.length 0 ++ (List.replicate (505 - l.length) 0 ++ List.replicate 4 0))).length := by simp [beL_length]; omega
  have hfit4 : l.length ≤ 509 := by omega
  clear e4
  go_wp2_with (refine wpList_copy_bs bt rfl (.tmp 20) (.tmp 21) rfl w.heap.size 3 509 509 84 _ _ (.slice a l.length cap) rfl rfl hb4 A4 hfit4 hin4 w.heap.size w b4 (Nat.le_refl _) ?_; intro w5 A5 b5)
  rw [splice_at ([k] ++ beL l.length 2) (List.replicate l.length 0) _ l 3 (by simp [beL_length]) (by simp)] at A5
  clear A4 b4 hb4 hin4 hfit4
  rw [← List.append_assoc l, ← List.append_assoc, show [k] ++ beL l.length 2 ++ (l ++ List.replicate (505 - l.length) 0) = aheadL k l by simp [aheadL]] at A5
  have hal := aheadL_length (k := k) hl
  have hsn := sumN_lt (aheadL k l)
  have s5 : Bs w5 (.slice (some ⟨w.heap.size, 0, none⟩) 508 512) (aheadL k l) := by
    have := A5.bs 0 508 512 (by rw [List.length_append, hal]; decide) (by decide) (by decide)
    rw [List.drop_zero, show List.take 508 (aheadL k l ++ List.replicate 4 0) = aheadL k l by rw [← hal, List.take_left]] at this
    exact this
  have HF := Lib.hid (show aheadL k l ++ four (sumN (aheadL k l)) = sealL k l from rfl)
  have HL := Lib.hid (sealL_length (k := k) hl)
  generalize aheadL k l = h at *
  have Hal := Lib.hid hal
  clear hal
  simp only [Act.put, List.setIfInBounds_toArray, List.set_cons_zero, List.set_cons_succ]
  refine region_till 99 (fun _ => True) (by kernel_rfl) hS (fun hS => ?_)
  refine take_till (i := 0) (some 23) (.slice (some ⟨w.heap.size, 508, none⟩) 4 4) rfl rfl (by kernel_rfl) (by kernel_rfl) (by kernel_rfl) (by kernel_rfl) (by decide) (fun _ _ _ h => h) (by rfl) (fun W hW => ?_) hS ?_
  · skip
    clear hW
    go_simp
  simp only [Act.put, List.setIfInBounds_toArray, List.set_cons_zero, List.set_cons_succ]
  refine take_till (i := 1) (some 24) (.slice (some ⟨w.heap.size, 0, none⟩) 508 512) rfl rfl (by kernel_rfl) (by kernel_rfl) (by kernel_rfl) (by kernel_rfl) (by decide) (fun _ _ _ h => h) (by rfl) (fun W hW => ?_) hS ?_
  · skip
    clear hW
    go_simp
  simp only [Act.put, List.setIfInBounds_toArray, List.set_cons_zero, List.set_cons_succ]
  refine next_till 2 (by kernel_rfl) rfl (fun K hK => ?_)
  go_simp
  have b5d : Below w.heap.size w w5.drew := below_drewN b5 1
  have A5d : Arr w5.drew w.heap.size 84 _ := A5
  have s5d : Bs w5.drew (.slice (some ⟨w.heap.size, 0, none⟩) 508 512) h := s5.drewN 1
  clear A5 b5 s5
  generalize w5.drew = w6 at *
  refine (sum_any _ s5d).mono ?_
  rintro e w7 ⟨rfl, rfl⟩
  generalize sumN h = s at *
  refine hK.out _ _ (fun _ => trivial) ?_
  clear hK K
  refine next_till 3 (by kernel_rfl) rfl (fun K hK => ?_)
  go_simp
  refine (blkLowest_any s _ hsn).mono ?_
  rintro e w7 ⟨v7, rfl, o7, b7⟩
  have A7 := A5d.below b7 A5d.lt
  have o7' : Bs w7 v7 (four s) := o7.bs
  have b7' := b5d.trans (b7.mono b5d.size)
  clear A5d b5d b7 o7 s5d
  refine hK.out _ _ (fun _ => trivial) ?_
  clear hK K
  refine next_till 4 (by kernel_rfl) rfl (fun K hK => ?_)
  refine step_copy_bs bt rfl (.tmp 23) (.tmp 26) rfl w.heap.size 508 4 4 84 _ _ v7 rfl rfl o7' A7 (Nat.le_refl 4) (by rw [List.length_append, Hal.out]; exact Nat.le_refl 512) w.heap.size w b7' (Nat.le_refl _) ?_
  intro w8 A8 b8
  have e8 := splice_at h (List.replicate 4 0) [] (four s) 508 Hal.out rfl
  rw [List.append_nil, List.append_nil] at e8
  rw [e8, HF.out] at A8
  clear A7 b7' o7' e8
  refine hK.out _ _ (fun _ => trivial) ?_
  simp only [Act.put, List.setIfInBounds_toArray]
  clear hK K
  refine done_till (by kernel_rfl) ?_ _
  have o8 := A8.ow (base := w.heap.size) (Nat.le_refl _) (by rw [HL.out]; decide)
  rw [HL.out] at o8
  go_wp2
  go_ret2
  exact ⟨_, rfl, o8, b8⟩

set_option maxHeartbeats 400000 in
theorem blkSeal_zero {b : Value} {l : List UInt8} (w : World) (hb : Bs w b l) :
    Calls Try.prog 27 #[.int .u8 0, b] w fun e w' => e = .returned (.tuple #[.slice none 0 0, .int .i64 1]) ∧ w = w' := by
  obtain ⟨a, cap, rfl, hb⟩ := hb.shape
  go_enter Try.func27, Try.ntmps27
  go_wp2
  go_ret2
  exact ⟨rfl, rfl⟩

set_option maxHeartbeats 400000 in
theorem blkSeal_many {b : Value} {l : List UInt8} (k : UInt8) (w : World) (hb : Bs w b l) (h0 : k ≠ 0) (hl : 505 < l.length) :
    Calls Try.prog 27 #[.int .u8 (k.toNat : Int), b] w fun e w' => e = .returned (.tuple #[.slice none 0 0, .int .i64 6]) ∧ w = w' := by
  have hk : ¬ (k.toNat : Int) = 0 := fun h => h0 (UInt8.toNat_inj.1 (by rw [show (0 : UInt8).toNat = 0 from rfl]; omega))
  obtain ⟨a, cap, rfl, hb⟩ := hb.shape
  go_enter Try.func27, Try.ntmps27
  go_wp2
  go_ret2
  exact ⟨rfl, rfl⟩
end Go.Proofs.Ytcpapdpnnlnemaa
namespace Go.Proofs.Ytcpapdpnnlnemaa
open Go.RowKit

theorem noughts_step (l : List UInt8) (r : Nat) (x : UInt8) (hx : l[r]? = some x) : noughtsB (l.take (r + 1)) = (noughtsB (l.take r) && (x == 0)) := by
  rw [List.take_add_one, hx]
  simp [noughtsB]

set_option maxHeartbeats 400000 in
theorem noughts_any {b : Value} {l : List UInt8} (w : World) (hb : Bs w b l) :
    Calls Try.prog 73 #[b] w fun e w' => e = .returned (.bool (noughtsB l)) ∧ w = w' := by
  obtain ⟨a, cap, rfl, hb⟩ := hb.shape
  have hlen := hb.len
  go_enter Try.func73, Try.ntmps73
  go_wp2
  go_loopw [4, 7] (fun _ i wr => ∃ r : Nat, r ≤ l.length ∧ i = .int .i64 r ∧ noughtsB (l.take r) = true ∧ w = wr) (fun _ i _ => l.length - (intOf i).toNat)
  case atStart => exact ⟨0, by omega, rfl, rfl, rfl⟩
  case round =>
    obtain ⟨r, hr, rfl, hn, rfl⟩ := hrel
    by_cases hlt : r < l.length
    · obtain ⟨b0, o0, cap0, e0, q0, hb0, hcells⟩ := hb.open (by omega)
      simp only [Value.slice.injEq] at e0
      obtain ⟨rfl, -, rfl⟩ := e0
      obtain ⟨x, hx⟩ : ∃ x, l[r]? = some x := ⟨_, List.getElem?_eq_getElem hlt⟩
      have hcell := hcells r x hx
      have hst := noughts_step l r x hx
      rw [hn, Bool.true_and] at hst
      by_cases h0 : x = 0
      · subst h0
        have H := Lib.hid (And.intro hst hx)
        clear hst hx hn hcells
        rw [show ((0 : UInt8).toNat : Int) = 0 from rfl] at hcell
        go_wp2
        go_roundw
        case rel => exact ⟨r + 1, by omega, by go_num, by rw [H.out.1]; rfl, by trivial⟩
        case measure => simp [intOf]; omega
      · have hne : ¬ (x.toNat : Int) = 0 := fun h => h0 (UInt8.toNat_inj.1 (by rw [show (0 : UInt8).toNat = 0 from rfl]; omega))
        have hf : noughtsB l = false := by
          have h1 : (x == 0) = false := by simpa using h0
          rw [h1] at hst
          unfold noughtsB at hst ⊢
          rw [List.all_eq_false] at hst ⊢
          obtain ⟨y, hy, hy2⟩ := hst
          exact ⟨y, List.mem_of_mem_take hy, hy2⟩
        have HF := Lib.hid hf
        clear hst hx hn hcells hf h0
        go_wp2
        go_ret
        exact ⟨ret_bool HF.out.symm, rfl⟩
    · obtain rfl : r = l.length := by omega
      rw [List.take_length] at hn
      have HF := Lib.hid hn
      clear hn
      go_wp2
      go_ret
      exact ⟨ret_bool HF.out.symm, rfl⟩

/-- What Open answers. -/
def Opens (w : World) (l : List UInt8) (e : Ending) (w' : World) : Prop :=
  ∃ v, e = .returned (.tuple #[.int .u8 ((openV l).1.toNat : Int), v, .int .i64 (openV l).2.2]) ∧ Ow w' w.heap.size 5 v (openV l).2.1 ∧ Below w.heap.size w w'

theorem opens_spoilt {w w' : World} {l : List UInt8} (h : ¬ (l.length = 512 ∧ rightB l = true)) (hb : Below w.heap.size w w') : Opens w l (.returned (.tuple #[.int .u8 0, .slice none 0 0, .int .i64 9])) w' := by
  unfold Opens
  rw [openV_spoilt h]
  exact ⟨_, rfl, World.ownsRow_nil _ _ _ _, hb⟩
theorem opens_bad {w w' : World} {l : List UInt8} (h : l.length = 512 ∧ rightB l = true) (ho : ¬ openOk l = true) (hb : Below w.heap.size w w') : Opens w l (.returned (.tuple #[.int .u8 0, .slice none 0 0, .int .i64 5])) w' := by
  unfold Opens
  rw [openV_bad h ho]
  exact ⟨_, rfl, World.ownsRow_nil _ _ _ _, hb⟩

set_option maxHeartbeats 400000 in
theorem blkOpen_short {b : Value} {l : List UInt8} (w : World) (hb : Bs w b l) (h : l.length ≠ 512) : Calls Try.prog 63 #[b] w (Opens w l) := by
  obtain ⟨a, cap, rfl, hb⟩ := hb.shape
  have fin := Lib.hid (fun (w' : World) (hb : Below w.heap.size w w') => opens_spoilt (l := l) (fun q => h q.1) hb)
  have hne : ((l.length : Int) != 512) = true := by simp; omega
  clear h
  go_enter Try.func63, Try.ntmps63
  go_wp2
  go_ret3
  exact fin.out _ (Below.refl _ _)

set_option maxHeartbeats 400000 in
theorem blkOpen_wrong {b : Value} {l : List UInt8} (w : World) (hb : Bs w b l) (h : l.length = 512) (hr : rightB l = false) : Calls Try.prog 63 #[b] w (Opens w l) := by
  have fin := Lib.hid (fun (w' : World) (hb : Below w.heap.size w w') => opens_spoilt (l := l) (fun q => by rw [hr] at q; cases q.2) hb)
  have HR := Lib.hid hr
  clear hr
  obtain ⟨a, cap, rfl, hb⟩ := hb.shape
  have e : (Value.slice a l.length cap) = .slice a 512 cap := by rw [h]
  rw [e] at hb ⊢
  clear e h
  go_enter Try.func63, Try.ntmps63
  go_wp2_with fail
  refine (right_any _ hb).mono ?_
  rintro e w1 ⟨he, n, hw⟩
  rw [HR.out] at he
  subst he
  have b1 : Below w.heap.size w w1 := by rw [hw]; exact below_drewN (Below.refl _ _) n
  clear hw
  go_wp2
  go_ret3
  exact fin.out _ b1

set_option maxHeartbeats 1000000 in
theorem blkOpen_right {b : Value} {l : List UInt8} (w : World) (hb : Bs w b l) (h : l.length = 512) (hr : rightB l = true) : Calls Try.prog 63 #[b] w (Opens w l) := by
  have HR := Lib.hid hr
  have HS := Lib.hid (And.intro h hr)
  obtain ⟨x0, hx0⟩ : ∃ x, l[0]? = some x := ⟨_, List.getElem?_eq_getElem (by omega)⟩
  have hx0' : l.getD 0 0 = x0 := by rw [List.getD_eq_getElem?_getD, hx0]; rfl
  obtain ⟨b0, o0, cap, rfl, q0, hb0, hcells⟩ := hb.open (by omega)
  have hcell := hcells 0 x0 hx0
  rw [Nat.add_zero] at hcell
  clear hr hx0 hcells
  have e : (Value.slice (some ⟨b0, o0, none⟩) l.length cap) = .slice (some ⟨b0, o0, none⟩) 512 cap := by rw [h]
  rw [e] at hb ⊢
  clear e
  obtain ⟨v1, r1, s1⟩ := run_slice_to_bs bt w hb .i64 508 (by omega)
  rw [show ((508 : Nat) : Int) = 508 from rfl] at r1
  have hl1 : (l.take 508).length = 508 := by simp; omega
  have hn0 : tbN (l.take 508) 1 = nOf l := by
    unfold tbN nOf
    rw [show (1 : Int).toNat = 1 from rfl, List.drop_take, List.take_take]
    rfl
  have hmay : takeMay (l.take 508) 1 2 := ⟨rfl, by decide, by rw [hl1]; decide⟩
  by_cases hn : nOf l ≤ 505
  · have hok : tbOk (l.take 508) 1 := ⟨hmay, by rw [hl1, hn0]; omega⟩
    have hE : tbE (l.take 508) 1 = 0 := by unfold tbE; rw [if_pos hmay, if_pos hok]
    have hX : tbX (l.take 508) 1 = ((3 + nOf l : Nat) : Int) := by unfold tbX; rw [if_pos hok, hn0]; omega
    have hL : tbL (l.take 508) 1 = (l.drop 3).take (nOf l) := by
      unfold tbL
      rw [if_pos hok, hn0, show (1 : Int).toNat + 2 = 3 from rfl, List.drop_take, List.take_take, Nat.min_eq_left (by omega)]
    obtain ⟨v2, r2, s2⟩ := run_slice_bs bt w hb .i64 .i64 (3 + nOf l) 508 (by omega) (by omega)
    rw [show ((508 : Nat) : Int) = 508 from rfl, Int.natCast_add, show ((3 : Nat) : Int) = 3 from rfl] at r2
    rw [Int.natCast_add, show ((3 : Nat) : Int) = 3 from rfl] at hX
    have HV := Lib.hid (And.intro hE (And.intro hX hL))
    have hgood : openOk l = (x0 != 0 && noughtsB ((l.take 508).drop (3 + nOf l))) := by
      unfold openOk
      rw [decide_eq_true hn, Bool.true_and, hx0']
    have hov := fun (ho : openOk l = true) => openV_good HS.out ho
    rw [hx0'] at hov
    have HG := Lib.hid hgood
    have HO := Lib.hid hov
    clear hok hE hX hL hgood hov hn0 hmay
    generalize hz : (l.take 508).drop (3 + nOf l) = z at *
    generalize hbd : (l.drop 3).take (nOf l) = body at *
    generalize nOf l = n at *
    clear hz hbd hx0'
    by_cases h0 : x0 = 0
    · subst h0
      have hbad : ¬ openOk l = true := by rw [HG.out]; simp
      have fin := Lib.hid (fun (w' : World) (hb : Below w.heap.size w w') => opens_bad HS.out hbad hb)
      rw [show ((0 : UInt8).toNat : Int) = 0 from rfl] at hcell
      clear hbad h
      go_enter Try.func63, Try.ntmps63
      go_wp2_with fail
      refine (right_any _ hb).mono ?_
      rintro e w1 ⟨he, m, hw⟩
      rw [HR.out] at he
      subst he
      have b1 : Below w.heap.size w w1 := by rw [hw]; exact below_drewN (Below.refl _ _) m
      have s1' := s1.below b1
      clear hw
      go_wp2_with fail
      refine (takeBytes_any 1 _ s1' (by rw [hl1]; decide)).mono ?_
      rintro e w2 ⟨v3, he, o3, b2⟩
      rw [HV.out.1, HV.out.2.1] at he
      subst he
      have b2' := b1.trans (b2.mono b1.size)
      have hc2 := (b2'.cell (p := ⟨b0, o0, none⟩) (by exact hb0)).trans hcell
      clear o3 b2 b1
      go_wp2
      go_ret3
      exact fin.out _ b2'
    · have hne : ((x0.toNat : Int) == 0) = false := by
        rw [beq_eq_false_iff_ne]
        exact fun h => h0 (UInt8.toNat_inj.1 (by rw [show (0 : UInt8).toNat = 0 from rfl]; omega))
      have hx : (x0 != 0) = true := by simpa using h0
      have hgd : openOk l = noughtsB z := by rw [HG.out, hx, Bool.true_and]
      clear hx h0
      by_cases hz : noughtsB z = true
      · have ho : openOk l = true := by rw [hgd, hz]
        have hv := HO.out ho
        have HZ := Lib.hid hz
        have HW := Lib.hid hv
        clear hz ho hgd hv h
        go_enter Try.func63, Try.ntmps63
        go_wp2_with fail
        refine (right_any _ hb).mono ?_
        rintro e w1 ⟨he, m, hw⟩
        rw [HR.out] at he
        subst he
        have b1 : Below w.heap.size w w1 := by rw [hw]; exact below_drewN (Below.refl _ _) m
        have s1' := s1.below b1
        clear hw
        go_wp2_with fail
        refine (takeBytes_any 1 _ s1' (by rw [hl1]; decide)).mono ?_
        rintro e w2 ⟨v3, he, o3, b2⟩
        rw [HV.out.1, HV.out.2.1] at he
        subst he
        rw [HV.out.2.2] at o3
        have b2' := b1.trans (b2.mono b1.size)
        have hc2 := (b2'.cell (p := ⟨b0, o0, none⟩) (by exact hb0)).trans hcell
        have s2' := s2.below b2'
        have o3' := o3.mono b1.size
        clear o3 b2 b1 s1' s1
        go_wp2_with fail
        refine (noughts_any _ s2').mono ?_
        rintro e w3 ⟨he, rfl⟩
        rw [HZ.out] at he
        subst he
        go_wp2
        go_ret3
        refine ⟨v3, ?_, ?_, b2'⟩
        · rw [HW.out]; rfl
        · rw [HW.out]; exact o3'
      · have hbad : ¬ openOk l = true := by rw [hgd]; exact hz
        have fin := Lib.hid (fun (w' : World) (hb : Below w.heap.size w w') => opens_bad HS.out hbad hb)
        have HZ := Lib.hid (show noughtsB z = false by simpa using hz)
        clear hbad hgd hz h
        go_enter Try.func63, Try.ntmps63
        go_wp2_with fail
        refine (right_any _ hb).mono ?_
        rintro e w1 ⟨he, m, hw⟩
        rw [HR.out] at he
        subst he
        have b1 : Below w.heap.size w w1 := by rw [hw]; exact below_drewN (Below.refl _ _) m
        have s1' := s1.below b1
        clear hw
        go_wp2_with fail
        refine (takeBytes_any 1 _ s1' (by rw [hl1]; decide)).mono ?_
        rintro e w2 ⟨v3, he, o3, b2⟩
        rw [HV.out.1, HV.out.2.1] at he
        subst he
        have b2' := b1.trans (b2.mono b1.size)
        have hc2 := (b2'.cell (p := ⟨b0, o0, none⟩) (by exact hb0)).trans hcell
        have s2' := s2.below b2'
        clear o3 b2 b1 s1' s1
        go_wp2_with fail
        refine (noughts_any _ s2').mono ?_
        rintro e w3 ⟨he, rfl⟩
        rw [HZ.out] at he
        subst he
        go_wp2
        go_ret3
        exact fin.out _ b2'
  · have hok : ¬ tbOk (l.take 508) 1 := fun q => by have := q.2; rw [hl1, hn0] at this; omega
    have hE : tbE (l.take 508) 1 = 5 := by unfold tbE; rw [if_pos hmay, if_neg hok]
    have hX : tbX (l.take 508) 1 = 0 := by unfold tbX; rw [if_neg hok]
    have hbad : ¬ openOk l = true := by unfold openOk; rw [decide_eq_false hn]; simp
    have fin := Lib.hid (fun (w' : World) (hb : Below w.heap.size w w') => opens_bad HS.out hbad hb)
    have HV := Lib.hid (And.intro hE hX)
    clear hok hE hX hbad hn hn0 hmay h hx0'
    go_enter Try.func63, Try.ntmps63
    go_wp2_with fail
    refine (right_any _ hb).mono ?_
    rintro e w1 ⟨he, m, hw⟩
    rw [HR.out] at he
    subst he
    have b1 : Below w.heap.size w w1 := by rw [hw]; exact below_drewN (Below.refl _ _) m
    have s1' := s1.below b1
    clear hw
    go_wp2_with fail
    refine (takeBytes_any 1 _ s1' (by rw [hl1]; decide)).mono ?_
    rintro e w2 ⟨v3, he, o3, b2⟩
    rw [HV.out.1, HV.out.2] at he
    subst he
    have b2' := b1.trans (b2.mono b1.size)
    clear o3 b2 b1
    go_wp2
    go_ret3
    exact fin.out _ b2'

theorem blkOpen_any {b : Value} {l : List UInt8} (w : World) (hb : Bs w b l) : Calls Try.prog 63 #[b] w (Opens w l) := by
  by_cases h : l.length = 512
  · rcases hr : rightB l with _ | _
    · exact blkOpen_wrong w hb h hr
    · exact blkOpen_right w hb h hr
  · exact blkOpen_short w hb h
end Go.Proofs.Ytcpapdpnnlnemaa
namespace Go.Proofs.Ytcpapdpnnlnemaa
open Go.RowKit

/-- What Seal answers: the bytes, the error. -/
def sealV (k : UInt8) (l : List UInt8) : List UInt8 × Int := if k = 0 then ([], 1) else if 505 < l.length then ([], 6) else (sealL k l, 0)
def Seals (w : World) (k : UInt8) (l : List UInt8) (e : Ending) (w' : World) : Prop :=
  ∃ v t, e = .returned (.tuple #[v, .int .i64 (sealV k l).2]) ∧ Ow w' w.heap.size t v (sealV k l).1 ∧ Below w.heap.size w w'

theorem blkSeal_any {b : Value} {l : List UInt8} (k : UInt8) (w : World) (hb : Bs w b l) : Calls Try.prog 27 #[.int .u8 (k.toNat : Int), b] w (Seals w k l) := by
  unfold Seals sealV
  by_cases h0 : k = 0
  · subst h0
    rw [if_pos rfl]
    refine (blkSeal_zero w hb).mono ?_
    rintro e w1 ⟨rfl, rfl⟩
    exact ⟨_, 5, rfl, World.ownsRow_nil _ _ _ _, Below.refl _ _⟩
  · rw [if_neg h0]
    by_cases hl : 505 < l.length
    · rw [if_pos hl]
      refine (blkSeal_many k w hb h0 hl).mono ?_
      rintro e w1 ⟨rfl, rfl⟩
      exact ⟨_, 5, rfl, World.ownsRow_nil _ _ _ _, Below.refl _ _⟩
    · rw [if_neg hl]
      refine (blkSeal_ok k w hb h0 (by omega)).mono ?_
      rintro e w1 ⟨v, he, ho, hbl⟩
      exact ⟨v, _, he, ho, hbl⟩

/-- An own row's block. -/
theorem Ow.own {w : World} {base : Nat} {e : TypeId} {v : Value} {l : List UInt8} (h : Ow w base e v l) {q : Nat} (hq : v.ownBlock = some q) : base ≤ q ∧ q < w.heap.size := World.ownsRow.lt h q hq

/-- A slice whose cells lie in one world lies below that world's end. -/
theorem Bs.old {w : World} {v : Value} {l : List UInt8} (h : Bs w v l) (hne : 0 < l.length) {q : Nat} (hq : v.ownBlock = some q) : q < w.heap.size := by
  obtain ⟨b, o, cap, rfl, _, hb, _⟩ := h.open hne
  cases hq
  exact hb

/-- What is turned is own: all else stays. -/
theorem Bs.turned {w w0 w' : World} {v x : Value} {l : List UInt8} (h : Bs w v l) (h0 : Bs w0 v l) (ho : Only (fun k => x.ownBlock = some k) w w') (hx : ∀ q, x.ownBlock = some q → w0.heap.size ≤ q) : Bs w' v l := by
  rcases Nat.eq_zero_or_pos l.length with hl | hl
  · obtain rfl : l = [] := List.eq_nil_of_length_eq_zero hl
    obtain ⟨a, cap, rfl, h1, h2, h3, h4⟩ := h
    exact ⟨a, cap, rfl, h1, h2, h3, fun ad _ i u hu => by simp [bvs] at hu⟩
  · exact h.only ho fun q hq hs => by
      have h1 := h0.old hl hq
      have h2 := hx q hs
      omega
end Go.Proofs.Ytcpapdpnnlnemaa
