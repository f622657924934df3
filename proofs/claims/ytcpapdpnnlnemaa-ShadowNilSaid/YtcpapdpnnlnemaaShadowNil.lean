/- The walk of ShadowNil: it returns true and writes nothing that was there; no condition. -/
import Derived.Test.YtcpapdpnnlnemaaShWorks
namespace Go.Proofs.Ytcpapdpnnlnemaa
open Go.RowKit Go.Maps

set_option maxRecDepth 1000000 in
set_option maxHeartbeats 2000000 in
theorem shadowNil_any {b : Value} {l : Bytes} (g : Nat) (w : World) (hb : Bs w b l) (hg : g < 18446744073709551616) : Calls Try.prog 6 #[.int .u64 (g : Int), b] w (Yes w) := by
  obtain ⟨ba, bc, rfl, _⟩ := hb.shape
  by_cases hl : 1000 < l.length
  · have hl' : (1000 : Int) < (l.length : Int) := by omega
    clear hl hb
    go_enter Try.func6, Try.ntmps6
    go_wp2_with fail
    refine (works_any _).mono ?_
    rintro e w1 ⟨rfl, hb⟩
    go_wp2
    go_ret
    exact ⟨rfl, hb⟩
  have hl' : (l.length : Int) ≤ 1000 := by omega
  have L1 : loadV (fresh 1) = (0, [], 1) := by unfold loadV; rw [if_neg (by decide), if_pos (by simp [fresh])]
  have S1 : sCode (fresh 1) g l = 1 := (save_not fun h => by have := h.2; revert this; simp [fresh]).1
  have U1 : Upto (fresh 1) 0 := fun k x hx => by obtain ⟨rfl, _⟩ := fresh_get hx; exact Nat.le_refl _
  have H := Lib.hid (And.intro hb (And.intro L1 (And.intro S1 U1)))
  clear hl hb L1 S1 U1
  go_enter Try.func6, Try.ntmps6
  go_wp2_with fail
  refine (load_nil _).mono ?_
  rintro e w1 ⟨v1, rfl, hn1, b1⟩
  obtain ⟨a1, c1, rfl, _⟩ := hn1.1.shape
  have hb1 := H.out.1.below b1
  have H1 := Lib.hid (And.intro b1 hb1)
  clear hn1 b1 hb1
  go_wp2_with fail
  refine (own_new 1 w1 (by decide) (by decide)).mono ?_
  rintro e w2 ⟨d, rfl, h2⟩
  have H2 := Lib.hid h2
  clear h2
  go_wp2_with fail
  refine (own_load H2.out).mono ?_
  rintro e w3 ⟨v3, he, h3⟩
  rw [H.out.2.1] at he h3
  subst he
  obtain ⟨a3, c3, rfl, _⟩ := h3.now.2.shape
  have H3 := Lib.hid (And.intro h3 (H1.out.2.below h3.under))
  clear h3 H2
  go_wp2_with fail
  refine (save_nil g _).mono ?_
  rintro e w4 ⟨rfl, rfl⟩
  go_wp2_with fail
  refine (own_save g H3.out.1 H.out.2.2.2 (by decide) hg H3.out.2).mono ?_
  rintro e w4 ⟨he, h4⟩
  rw [H.out.2.2.1] at he
  subst he
  have H4 := Lib.hid (H1.out.1.trans (h4.under.mono H1.out.1.size))
  clear h4 H3
  go_wp2_with fail
  refine (works_any _).mono ?_
  rintro e w5 ⟨rfl, b5⟩
  go_wp2
  go_ret
  exact ⟨rfl, H4.out.trans (b5.mono H4.out.size)⟩
end Go.Proofs.Ytcpapdpnnlnemaa
