/- JournalCrash: whatever power is lost, what was held is there, and what was under way, whole or not at all; no condition. -/
import Derived.Test.YtijkkkiejdaljaaJrCrashNone
import Derived.Test.YtijkkkiejdaljaaJrCrashArms
namespace Go.Proofs.Ytijkkkiejdaljaa
open Go.RowKit

theorem journalCrash_any (x : Case) {a1 : Option Addr} {len1 cap1 : Nat} {l1 : Bytes} (w : World) (hx : CaseIn w x) (h1 : Bs w (.slice a1 len1 cap1) l1) : Calls Try.prog 4 #[caseV x, .slice a1 len1 cap1] w (Yes w) := by
  obtain ⟨a1', c1', he1, -⟩ := h1.shape
  simp only [Value.slice.injEq] at he1
  obtain ⟨-, rfl, -⟩ := he1
  by_cases hne : 0 < l1.length
  · obtain ⟨g1, o1, cp, e, -⟩ := h1.open hne
    simp only [Value.slice.injEq] at e
    obtain ⟨rfl, -, -⟩ := e
    exact crashArms_any x w hx h1 hne
  · have h0 : l1.length = 0 := by omega
    rw [h0]
    exact crashNone_any x a1 cap1 w hx
end Go.Proofs.Ytijkkkiejdaljaa
