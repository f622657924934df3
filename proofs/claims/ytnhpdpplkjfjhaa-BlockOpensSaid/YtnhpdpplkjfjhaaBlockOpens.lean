/- The walk of BlockOpens: it returns true and writes nothing that was there; no condition. -/
import Derived.Test.YtnhpdpplkjfjhaaBlkTurned
namespace Go.Proofs.Ytnhpdpplkjfjhaa
open Go.RowKit

set_option maxRecDepth 100000 in
set_option maxHeartbeats 1000000 in
theorem blockOpens_any {b : Value} {l : List UInt8} (w : World) (hb : Bs w b l) :
    Calls Try.prog 4 #[b] w (Yes w) := by
  obtain ⟨pa, pc, rfl, hb⟩ := hb.shape
  by_cases hl : l.length ≤ 2000
  · have hI : ¬ (2000 : Int) < (l.length : Int) := by omega
    go_enter Try.func4, Try.ntmps4
    go_wp2_with fail
    refine (copied_any _ hb (by omega)).mono ?_
    rintro e w1 ⟨v1, rfl, o1, b1⟩
    go_wp2_with fail
    refine (blkOpen_any _ o1.bs).mono ?_
    rintro e w2 ⟨v2, rfl, o2, b2⟩
    have b2' := b1.trans (b2.mono b1.size)
    have hb2 := hb.below b2'
    have o1' := o1.below b2
    have k1 := run_string_bs bt (d := 9) Try.underlying9 w2 o1'.bs
    have k2 := run_string_bs bt (d := 9) Try.underlying9 w2 hb2
    go_wp2_with fail
    refine (turned_any _ _ o1' (by omega)).mono ?_
    rintro e w3 ⟨rfl, on3⟩
    have hb3 := hb2.turned hb on3 fun q hq => (o1.own hq).1
    have b3 : Below w.heap.size w2 w3 := on3.below b2'.size fun q hq => (o1.own hq).1
    have s3 : Bs w3 v2 (openV l).2.1 := o2.bs.only on3 fun q hq hq' => by
      have h1 := (o2.own hq).1
      have h2 := (o1.own hq').2
      omega
    have b3' := b2'.trans b3
    clear b3 on3 k1 k2 o1' hb2 b2' o2 b2 o1 b1
    go_wp2_with fail
    refine (refOpen_any _ hb3).mono ?_
    rintro e w4 ⟨v4, rfl, o4, b4⟩
    have b4' := b3'.trans (b4.mono b3'.size)
    have k1 := run_string_bs bt (d := 9) Try.underlying9 w4 (s3.below b4)
    have k2 := run_string_bs bt (d := 9) Try.underlying9 w4 o4.bs
    clear b3' hb3 s3 o4 b4
    go_wp2_with fail
    refine (works_any _).mono ?_
    rintro e w5 ⟨rfl, b5⟩
    go_wp2
    go_ret
    exact ⟨rfl, b4'.trans (b5.mono b4'.size)⟩
  · have hI : (2000 : Int) < (l.length : Int) := by omega
    go_enter Try.func4, Try.ntmps4
    go_wp2_with fail
    refine (works_any _).mono ?_
    rintro e w4 ⟨rfl, b4⟩
    go_wp2
    go_ret
    exact ⟨rfl, b4⟩
end Go.Proofs.Ytnhpdpplkjfjhaa
