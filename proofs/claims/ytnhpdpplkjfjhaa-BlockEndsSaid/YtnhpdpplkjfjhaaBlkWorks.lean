/- The anchor of the statements of layer 4 (the chapter's examples) and their small helpers: each answers as it says and writes nothing that was there; conditions: the lengths that each contract names. -/
import Derived.Test.YtnhpdpplkjfjhaaBlkRefOpen
namespace Go.Proofs.Ytnhpdpplkjfjhaa
open Go.RowKit

theorem seal_front : (sealL 1 [97, 98]).take 5 = [1, 0, 2, 97, 98] := rfl
theorem fold_z1 : foldN fullN (List.replicate 127 0) = 2408625509 := by decide +kernel
theorem fold_z2 : foldN 2408625509 (List.replicate 127 0) = 2704700111 := by decide +kernel
theorem fold_z3 : foldN 2704700111 (List.replicate 127 0) = 177498411 := by decide +kernel
theorem fold_z4 : foldN 177498411 (List.replicate 127 0) = 4031025835 := by decide +kernel
theorem sum_508 : sumN (List.replicate 508 0) = 263941460 := by
  have e : List.replicate 508 (0 : UInt8) = List.replicate 127 0 ++ (List.replicate 127 0 ++ (List.replicate 127 0 ++ List.replicate 127 0)) := by
    rw [List.replicate_append_replicate, List.replicate_append_replicate, List.replicate_append_replicate]
  unfold sumN moreN
  rw [show notN 0 = fullN from rfl, e, foldN_append, foldN_append, foldN_append, fold_z1, fold_z2, fold_z3, fold_z4]
  decide
theorem noughts_512 : openV (List.replicate 512 0) = (0, [], 9) := by
  apply openV_spoilt
  rintro ⟨-, h⟩
  have hl : (List.replicate 512 (0 : UInt8)).length = 512 := List.length_replicate
  rw [rightB_long (by rw [hl]; decide)] at h
  unfold rightP at h
  rw [hl, List.take_replicate, List.drop_replicate, show min (512 - 4) 512 = 508 from rfl, show 512 - (512 - 4) = 4 from rfl, sum_508] at h
  revert h
  decide

set_option maxRecDepth 100000 in
set_option maxHeartbeats 1000000 in
theorem works_any (w : World) : Calls Try.prog 7 #[] w (Yes w) := by
  have hcv := fun (w : World) (C : Array Value) (n c : Nat) => Lib.run_convert_bytes_const (P := Try.prog) w 22 5 C n c Try.underlying22 Try.underlying5
  go_enter Try.func7, Try.ntmps7
  go_wp2_with fail
  refine (blkSeal_ok 1 _ (bs_text w _ [97, 98] 2 (2, 3) rfl rfl (by decide)) (by decide) (by decide)).mono ?_
  rintro e w1 ⟨v1, rfl, o1, b1'⟩
  have b1 : Below w.heap.size w w1 := (below_text w _ (2, 3)).trans (b1'.mono (below_text w #[.int .u8 97, .int .u8 98] (2, 3)).size)
  have o1' := o1.mono (below_text w #[.int .u8 97, .int .u8 98] (2, 3)).size
  clear b1' o1
  go_wp2_with fail
  refine (blkSeal_zero _ (Bs.nil _)).mono ?_
  rintro e w2 ⟨rfl, rfl⟩
  obtain ⟨w2, hmk, o2, g2⟩ := run_zeros_bs bt w1 w1.heap.size .i64 .i64 506 (by decide) (Nat.le_refl _)
  rw [show ((506 : Nat) : Int) = 506 from rfl] at hmk
  have b2 : Below w1.heap.size w1 w2 := (Below.refl _ _).grown g2 (Nat.le_refl _) (fun _ h => by cases h)
  go_wp2_with fail
  refine (blkSeal_many 1 _ o2.bs (by decide) (by rw [List.length_replicate]; decide)).mono ?_
  rintro e w3 ⟨rfl, rfl⟩
  have o2' := o1'.below b2
  have b2' := b1.trans (b2.mono b1.size)
  clear o2 b2 o1' b1 hmk g2
  go_wp2_with fail
  refine (blkOpen_any _ o2'.bs).mono ?_
  rintro e w3 ⟨v3, he, o3, b3⟩
  rw [open_seal (by decide) (by decide)] at he o3
  subst he
  have o3' := o2'.below b3
  have b3' := b2'.trans (b3.mono b2'.size)
  clear o2' b2' b3
  obtain ⟨w4, hmk, o4, g4⟩ := run_zeros_bs bt w3 w3.heap.size .i64 .i64 512 (by decide) (Nat.le_refl _)
  rw [show ((512 : Nat) : Int) = 512 from rfl] at hmk
  have b4 : Below w3.heap.size w3 w4 := (Below.refl _ _).grown g4 (Nat.le_refl _) (fun _ h => by cases h)
  go_wp2_with fail
  refine (blkOpen_any _ o4.bs).mono ?_
  rintro e w5 ⟨v5, he, o5, b5⟩
  rw [noughts_512] at he
  subst he
  have b4' := b3'.trans (b4.mono b3'.size)
  have b5' := b4'.trans (b5.mono b4'.size)
  have o5' := (o3'.below b4).below b5
  have q5 := (o3.below b4).below b5
  have hl : (sealL 1 [97, 98]).length = 512 := sealL_length (by decide)
  obtain ⟨p1, c1, hv1, -⟩ := o5'.bs.shape
  rw [hl] at hv1
  subst hv1
  obtain ⟨vs, rs, ss⟩ := run_slice_to_bs bt w5 o5'.bs .i64 5 (by rw [hl]; decide)
  rw [show ((5 : Nat) : Int) = 5 from rfl] at rs
  rw [seal_front] at ss
  have k1 := run_string_bs bt (d := 9) Try.underlying9 w5 ss
  have k2 := run_string_bs bt (d := 9) Try.underlying9 w5 q5.bs
  clear b3' b4 b4' b5 o3 o3' o4 o5 o5' q5 ss hl hmk g4
  go_wp2
  go_ret
  exact ⟨rfl, b5'⟩

set_option maxHeartbeats 400000 in
theorem copied_any {b : Value} {l : List UInt8} (w : World) (hb : Bs w b l) (hl : l.length ≤ 1073741824) :
    Calls Try.prog 8 #[b] w (Gives w l) := by
  have hs : ([] : List UInt8).length + l.length ≤ 140737488355328 := by simp; omega
  have hz : w.heap.size ≤ (w.alloc (.cells #[] 5)).heap.size := by simp
  have hbl := (Below.refl w.heap.size w).alloc (Nat.le_refl _) (.cells #[] 5)
  have hb1 := hb.below hbl
  have ho := ow_empty w
  go_enter Try.func8, Try.ntmps8
  go_wp2_with (at_builtin; refine wpList_append_bs bt rfl _ _ rfl w.heap.size rfl rfl ho hb1 hs hz ?_; intro v3 w3 ho3 hg3)
  go_ret
  exact ⟨_, rfl, ho3, below_own hbl ho hg3⟩
end Go.Proofs.Ytnhpdpplkjfjhaa
