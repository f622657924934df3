/- Whether two rows of numbers are the same, by the document; no condition. -/
import Derived.Test.YtmdjgkclbjbdiaaNtRel
import Derived.Test.YtmdjgkclbjbdiaaHeldLast
import Derived.BigQuiet
namespace Go.Proofs.Ytmdjgkclbjbdiaa
open Go.RowKit

def SameTo (l m : List Int) (k : Nat) : Prop := l.take k = m.take k
theorem SameTo.more {l m : List Int} {k : Nat} {x : Int} (h : SameTo l m k) (h1 : l[k]? = some x) (h2 : m[k]? = some x) : SameTo l m (k + 1) := by
  unfold SameTo at *
  rw [List.take_add_one, List.take_add_one, h, h1, h2]

set_option maxRecDepth 100000 in
set_option maxHeartbeats 4000000 in
theorem nsame_any (l m : List Int) (w : World) {v x : Value} (hl : Fs w v l) (hm : Fs w x m) :
    Calls Try.prog 21 #[v, x] w fun e w' => e = .returned (.bool (decide (l = m))) ∧ Below w.heap.size w w' := by
  obtain ⟨va, vc, rfl, -, -⟩ := hl.shape
  obtain ⟨xa, xc, rfl, -, -⟩ := hm.shape
  have hll := hl.len
  obtain ⟨L, hL⟩ : ∃ L, L = l.length := ⟨_, rfl⟩
  obtain ⟨M, hM⟩ : ∃ M, M = m.length := ⟨_, rfl⟩
  obtain ⟨b, hbv⟩ : ∃ b, b = decide (l = m) := ⟨_, rfl⟩
  have hF : ¬ l = m → b = false := fun h => by rw [hbv]; exact decide_eq_false h
  have hT : l = m → b = true := fun h => by rw [hbv]; exact decide_eq_true h
  rw [← hbv]
  clear hbv
  rw [← hL] at hl hll ⊢
  rw [← hM] at hm ⊢
  have H0 := Lib.hid (And.intro hl (And.intro hm (And.intro hL (And.intro hM (And.intro hF hT)))))
  clear hl hm hL hM hF hT
  by_cases hlm : (L : Int) = (M : Int)
  case neg =>
    obtain rfl := H0.out.2.2.2.2.1 (fun h => hlm (by rw [H0.out.2.2.1, H0.out.2.2.2.1, h]))
    have hq : ((L : Int) != (M : Int)) = true := by simpa using hlm
    have HN := Lib.hid hlm
    clear hlm
    go_enter Try.func21, Try.ntmps21
    go_wp2
    go_ret
    exact ⟨rfl, Below.refl _ _⟩
  obtain rfl : L = M := by omega
  clear hlm
  go_enter Try.func21, Try.ntmps21
  go_wp2
  go_loopw [5] (fun j wr => ∃ k : Nat, j = .int .i64 (k : Int) ∧ k ≤ L ∧ SameTo l m k ∧ Below w.heap.size w wr) (fun j _ => L - (intOf j).toNat)
  case atStart => exact ⟨0, rfl, Nat.zero_le _, rfl, Below.refl _ _⟩
  case round =>
    obtain ⟨k, rfl, hk, hn, hb⟩ := hrel
    rcases Nat.lt_or_ge k L with hlt | hge
    · obtain ⟨y, hy⟩ : ∃ y, l[k]? = some y := ⟨_, List.getElem?_eq_getElem (by have := H0.out.2.2.1; omega)⟩
      obtain ⟨z, hz⟩ : ∃ z, m[k]? = some z := ⟨_, List.getElem?_eq_getElem (by have := H0.out.2.2.2.1; omega)⟩
      obtain ⟨g, o, cap, e0, hg, f0⟩ := fs_at (H0.out.1.below hb) hy
      obtain ⟨g2, o2, cap2, e2, hg2, f2⟩ := fs_at (H0.out.2.1.below hb) hz
      simp only [Value.slice.injEq] at e0 e2
      obtain ⟨rfl, -, rfl⟩ := e0
      obtain ⟨rfl, -, rfl⟩ := e2
      have hki : (k : Int) < (L : Int) := by omega
      have hk1 : (k : Int) ≤ 9223372036854775806 := by omega
      have hk0 : (0 : Int) ≤ (k : Int) := by omega
      by_cases hyz : y = z
      · subst hyz
        have HK := Lib.hid (And.intro hlt (And.intro (hn.more hy hz) hb))
        clear hlt hk hn hy hz hg hg2 hb
        go_wp2
        go_quiet (fail)
        go_wp2
        go_roundw
        case rel => exact ⟨k + 1, by go_num, HK.out.1, HK.out.2.1, below_drewN HK.out.2.2 _⟩
        case measure =>
          have := HK.out.1
          simp only [intOf]
          omega
      · obtain rfl := H0.out.2.2.2.2.1 (fun h => hyz (by rw [h, hz] at hy; cases hy; rfl))
        have hq : (y != z) = true := by simpa using hyz
        have HK := Lib.hid (And.intro hyz hb)
        clear hlt hk hn hy hz hg hg2 hyz hb
        go_wp2
        go_quiet (fail)
        go_wp2
        go_ret
        exact ⟨rfl, below_drewN HK.out.2 _⟩
    · obtain rfl : k = L := by omega
      have hz : l = m := by
        unfold SameTo at hn
        rw [List.take_of_length_le (by have := H0.out.2.2.1; omega), List.take_of_length_le (by have := H0.out.2.2.2.1; omega)] at hn
        exact hn
      obtain rfl := H0.out.2.2.2.2.2 hz
      have hki : ¬ (k : Int) < (k : Int) := by omega
      have HB := Lib.hid hb
      clear hz hn hk hge hb
      go_wp2
      go_ret
      exact ⟨rfl, HB.out⟩
end Go.Proofs.Ytmdjgkclbjbdiaa
