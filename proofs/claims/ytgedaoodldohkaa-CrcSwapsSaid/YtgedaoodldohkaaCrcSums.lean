/- The walk of CrcSums: it returns true and writes nothing that was there; no condition. -/
import Derived.Test.YtgedaoodldohkaaCrcWorks
namespace Go.Proofs.Ytgedaoodldohkaa
open Go.RowKit

theorem right_b {b : Value} {l : List UInt8} (w : World) (hb : Bs w b l) :
    Calls Try.prog 15 #[b] w fun e w' => e = .returned (.bool (rightB l)) ∧ Below w.heap.size w w' :=
  (right_any w hb).mono fun _ _ ⟨he, n, hw⟩ => ⟨he, by rw [hw]; exact below_drewN (Below.refl _ _) n⟩

theorem refRight_b {b : Value} {l : List UInt8} (w : World) (hb : Bs w b l) :
    Calls Try.prog 16 #[b] w fun e w' => e = .returned (.bool (rightB l)) ∧ Below w.heap.size w w' :=
  (refRight_any w hb).mono fun _ _ ⟨he, n, hw⟩ => ⟨he, by rw [hw]; exact below_drewN (Below.refl _ _) n⟩

set_option maxRecDepth 100000 in
set_option maxHeartbeats 1000000 in
theorem crcSums_any {b : Value} {l : List UInt8} (s : Nat) (w : World) (hb : Bs w b l) (hs : s < 4294967296) :
    Calls Try.prog 3 #[b, .int .u32 (s : Int)] w (Yes w) := by
  by_cases hl : l.length ≤ 8192
  · go_enter Try.func3, Try.ntmps3
    go_wp2_with fail
    refine (vast_no _ hb hl).mono ?_
    rintro e w1 ⟨rfl, rfl⟩
    go_wp2_with fail
    refine (copied_any _ hb (by omega)).mono ?_
    rintro e w1 ⟨v1, rfl, o1, b1⟩
    have hb1 := hb.below b1
    go_wp2_with fail
    refine (sum_any _ o1.bs).mono ?_
    rintro e w2 ⟨rfl, rfl⟩
    go_wp2_with fail
    refine (refSum_any _ hb1).mono ?_
    rintro e w2 ⟨rfl, rfl⟩
    go_wp2_with fail
    refine (more_any s _ o1.bs hs).mono ?_
    rintro e w2 ⟨rfl, rfl⟩
    go_wp2_with fail
    refine (refMore_any s _ hb1 hs).mono ?_
    rintro e w2 ⟨rfl, rfl⟩
    go_wp2_with fail
    refine (right_b _ o1.bs).mono ?_
    rintro e w2 ⟨rfl, b2⟩
    go_wp2_with fail
    refine (refRight_b _ (hb1.below b2)).mono ?_
    rintro e w3 ⟨rfl, b3⟩
    have k1 := run_string_bs bt (d := 9) Try.underlying9 w3 ((o1.bs.below b2).below b3)
    have k2 := run_string_bs bt (d := 9) Try.underlying9 w3 ((hb1.below b2).below b3)
    go_wp2_with fail
    refine (works_any _).mono ?_
    rintro e w4 ⟨rfl, b4⟩
    go_wp2
    go_ret
    have c2 := b1.trans (b2.mono b1.size)
    have c3 := c2.trans (b3.mono c2.size)
    exact ⟨rfl, c3.trans (b4.mono c3.size)⟩
  · go_enter Try.func3, Try.ntmps3
    go_wp2_with fail
    refine (vast_yes _ hb (by omega)).mono ?_
    rintro e w1 ⟨rfl, rfl⟩
    go_wp2_with fail
    refine (works_any _).mono ?_
    rintro e w4 ⟨rfl, b4⟩
    go_wp2
    go_ret
    exact ⟨rfl, b4⟩
end Go.Proofs.Ytgedaoodldohkaa
