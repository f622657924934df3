/- Whether an edge may be in a net; no condition. -/
import Derived.Test.YtmdjgkclbjbdiaaNtRel
namespace Go.Proofs.Ytmdjgkclbjbdiaa
open Go.RowKit

set_option maxRecDepth 100000 in
set_option maxHeartbeats 2000000 in
theorem permitted_any (e : Ed) (n : Int) (w : World) : Calls Try.prog 27 #[edV e, .int .i64 n] w fun r w' => r = .returned (.bool (decide (Perm n e))) ∧ Below w.heap.size w w' := by
  have key : ¬ 0 ≤ e.fr ∨ (0 ≤ e.fr ∧ ¬ e.fr < n) ∨ (0 ≤ e.fr ∧ e.fr < n ∧ ¬ 0 ≤ e.to) ∨ (0 ≤ e.fr ∧ e.fr < n ∧ 0 ≤ e.to ∧ ¬ e.to < n) ∨ (0 ≤ e.fr ∧ e.fr < n ∧ 0 ≤ e.to ∧ e.to < n ∧ ¬ 0 ≤ e.cap) ∨
    (0 ≤ e.fr ∧ e.fr < n ∧ 0 ≤ e.to ∧ e.to < n ∧ 0 ≤ e.cap ∧ ¬ e.cap ≤ 4503599627370496) ∨ (0 ≤ e.fr ∧ e.fr < n ∧ 0 ≤ e.to ∧ e.to < n ∧ 0 ≤ e.cap ∧ e.cap ≤ 4503599627370496 ∧ ¬ -1000 ≤ e.cost) ∨
    (0 ≤ e.fr ∧ e.fr < n ∧ 0 ≤ e.to ∧ e.to < n ∧ 0 ≤ e.cap ∧ e.cap ≤ 4503599627370496 ∧ -1000 ≤ e.cost ∧ ¬ e.cost ≤ 1000) ∨
    (0 ≤ e.fr ∧ e.fr < n ∧ 0 ≤ e.to ∧ e.to < n ∧ 0 ≤ e.cap ∧ e.cap ≤ 4503599627370496 ∧ -1000 ≤ e.cost ∧ e.cost ≤ 1000) := by
    by_cases k1 : 0 ≤ e.fr
    case neg => exact .inl k1
    right
    by_cases k2 : e.fr < n
    case neg => exact .inl ⟨k1, k2⟩
    right
    by_cases k3 : 0 ≤ e.to
    case neg => exact .inl ⟨k1, k2, k3⟩
    right
    by_cases k4 : e.to < n
    case neg => exact .inl ⟨k1, k2, k3, k4⟩
    right
    by_cases k5 : 0 ≤ e.cap
    case neg => exact .inl ⟨k1, k2, k3, k4, k5⟩
    right
    by_cases k6 : e.cap ≤ 4503599627370496
    case neg => exact .inl ⟨k1, k2, k3, k4, k5, k6⟩
    right
    by_cases k7 : -1000 ≤ e.cost
    case neg => exact .inl ⟨k1, k2, k3, k4, k5, k6, k7⟩
    right
    by_cases k8 : e.cost ≤ 1000
    case neg => exact .inl ⟨k1, k2, k3, k4, k5, k6, k7, k8⟩
    exact .inr ⟨k1, k2, k3, k4, k5, k6, k7, k8⟩
  have hb : Below w.heap.size w (w.alloc (.cells #[.int .i64 e.fr, .int .i64 e.to, .int .i64 e.cap, .int .i64 e.cost] 39)) := (Below.refl _ _).alloc (Nat.le_refl _) _
  obtain ⟨v, hv⟩ : ∃ v, v = decide (Perm n e) := ⟨_, rfl⟩
  have hF : ¬ Perm n e → v = false := fun h => by rw [hv]; exact decide_eq_false h
  have hT : Perm n e → v = true := fun h => by rw [hv]; exact decide_eq_true h
  rw [← hv]
  clear hv
  rcases key with k1 | ⟨k1, k2⟩ | ⟨k1, k2, k3⟩ | ⟨k1, k2, k3, k4⟩ | ⟨k1, k2, k3, k4, k5⟩ | ⟨k1, k2, k3, k4, k5, k6⟩ | ⟨k1, k2, k3, k4, k5, k6, k7⟩ | ⟨k1, k2, k3, k4, k5, k6, k7, k8⟩ | ⟨k1, k2, k3, k4, k5, k6, k7, k8⟩
  all_goals
    first
    | rw [hF (by unfold Perm; omega)]
    | rw [hT (by unfold Perm; omega)]
  all_goals
    have HB := Lib.hid hb
    clear hF hT hb
    go_enter Try.func27, Try.ntmps27
    go_wp2
    go_ret
    exact ⟨rfl, HB.out⟩
end Go.Proofs.Ytmdjgkclbjbdiaa
