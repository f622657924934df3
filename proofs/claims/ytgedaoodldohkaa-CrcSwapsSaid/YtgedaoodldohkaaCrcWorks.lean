/- The anchor of the statements of layer 2 (the chapter's examples) returns true and writes nothing that was there; no condition. -/
import Derived.Test.YtgedaoodldohkaaCrcRefs
namespace Go.Proofs.Ytgedaoodldohkaa
open Go.RowKit

theorem sum_nine : sumN [49, 50, 51, 52, 53, 54, 55, 56, 57] = 3421780262 := by decide +kernel
theorem more_nine : moreN (sumN [49, 50, 51, 52]) [53, 54, 55, 56, 57] = 3421780262 := by decide +kernel
theorem right_nine : rightB [49, 50, 51, 52, 53, 54, 55, 56, 57, 38, 57, 244, 203] = true := by decide +kernel
theorem right_noughts : rightB [0, 0, 0, 0] = true := by decide +kernel
theorem right_nil : rightB [] = false := by decide +kernel

set_option maxRecDepth 100000 in
set_option maxHeartbeats 1000000 in
theorem works_any (w : World) : Calls Try.prog 9 #[] w fun e w' => e = .returned (.bool true) ∧ Below w.heap.size w w' := by
  have hcv := fun (w : World) (C : Array Value) (n c : Nat) => Lib.run_convert_bytes_const (P := Try.prog) w 22 5 C n c Try.underlying22 Try.underlying5
  go_enter Try.func9, Try.ntmps9
  go_wp2_with fail
  refine (sum_any _ (bs_text w _ [49, 50, 51, 52, 53, 54, 55, 56, 57] 9 (9, 10) rfl rfl (by decide))).mono ?_
  rintro e w1 ⟨he, hw⟩
  have b1 : Below w.heap.size w w1 := hw ▸ below_text w _ (9, 10)
  clear hw
  rw [sum_nine] at he
  subst he
  go_wp2_with fail
  refine (sum_any _ (bs_text w1 _ [49, 50, 51, 52] 4 (4, 5) rfl rfl (by decide))).mono ?_
  rintro e w2 ⟨rfl, hw⟩
  have b2 : Below w1.heap.size w1 w2 := hw ▸ below_text w1 _ (4, 5)
  clear hw
  go_wp2_with fail
  refine (more_any _ _ (bs_text w2 _ [53, 54, 55, 56, 57] 5 (5, 6) rfl rfl (by decide)) (sumN_lt _)).mono ?_
  rintro e w3 ⟨he, hw⟩
  have b3 : Below w2.heap.size w2 w3 := hw ▸ below_text w2 _ (5, 6)
  clear hw
  rw [more_nine] at he
  subst he
  go_wp2_with fail
  refine (right_any _ (bs_text w3 _ [49, 50, 51, 52, 53, 54, 55, 56, 57, 38, 57, 244, 203] 13 (13, 14) rfl rfl (by decide))).mono ?_
  rintro e w4 ⟨he, n4, hw⟩
  have b4 : Below w3.heap.size w3 w4 := by rw [hw]; exact below_drewN (below_text w3 _ (13, 14)) n4
  clear hw
  rw [right_nine] at he
  subst he
  obtain ⟨w5, hmk, o5, g5⟩ := run_zeros_bs bt w4 w4.heap.size .i64 .i64 4 (by decide) (Nat.le_refl _)
  rw [show ((4 : Nat) : Int) = 4 from rfl] at hmk
  have b5 : Below w4.heap.size w4 w5 := (Below.refl _ _).grown g5 (Nat.le_refl _) (fun _ h => by cases h)
  go_wp2_with fail
  refine (right_any _ o5.bs).mono ?_
  rintro e w6 ⟨he, n6, hw⟩
  have b6 : Below w5.heap.size w5 w6 := by rw [hw]; exact below_drewN (Below.refl _ _) n6
  clear hw
  rw [show List.replicate 4 (0 : UInt8) = [0, 0, 0, 0] from rfl, right_noughts] at he
  subst he
  go_wp2_with fail
  refine (right_any _ (Bs.nil _)).mono ?_
  rintro e w7 ⟨he, n7, hw⟩
  have b7 : Below w6.heap.size w6 w7 := by rw [hw]; exact below_drewN (Below.refl _ _) n7
  clear hw
  rw [right_nil] at he
  subst he
  go_wp2
  go_ret
  refine ⟨rfl, ?_⟩
  have c2 := b1.trans (b2.mono b1.size)
  have c3 := c2.trans (b3.mono c2.size)
  have c4 := c3.trans (b4.mono c3.size)
  have c5 := c4.trans (b5.mono c4.size)
  have c6 := c5.trans (b6.mono c5.size)
  exact c6.trans (b7.mono c6.size)
end Go.Proofs.Ytgedaoodldohkaa
