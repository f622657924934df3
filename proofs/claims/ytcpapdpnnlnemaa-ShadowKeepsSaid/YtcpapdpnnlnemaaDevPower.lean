/- Power of a device; no condition. -/
import Derived.Test.YtcpapdpnnlnemaaDevOwn
namespace Go.Proofs.Ytcpapdpnnlnemaa
open Go.RowKit Go.Maps

section
variable {w : World} {b : Nat} {D : Dv} {F : Nat → Prop}
theorem power_any (h : Dev w b D F) : Calls Try.prog 42 #[ptr b] w fun e w' => e = .returned (.bool D.on) ∧ w = w' := by
  obtain ⟨sb, mb, sv, lv, Dm, h⟩ := h
  have c2 := h.cells.2.2.1
  clear h
  go_enter Try.func42, Try.ntmps42
  go_wp2
  go_ret
  exact ⟨rfl, rfl⟩

theorem power_nil (w : World) : Calls Try.prog 42 #[.pointer none] w fun e w' => e = .returned (.bool false) ∧ w = w' := by
  go_enter Try.func42, Try.ntmps42
  go_wp2
  go_ret
  exact ⟨rfl, rfl⟩

end

section
variable {w0 w : World} {b : Nat} {D : Dv}
theorem m_power (h : Mine w0 w b D) : Calls Try.prog 42 #[ptr b] w fun e w' => e = .returned (.bool D.on) ∧ w = w' := by
  obtain ⟨F, h1, _⟩ := h
  exact power_any h1
end
end Go.Proofs.Ytcpapdpnnlnemaa
