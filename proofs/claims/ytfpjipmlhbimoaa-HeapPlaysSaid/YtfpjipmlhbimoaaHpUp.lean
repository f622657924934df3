/- Moving a thing up and down in a heap; condition: all is in order but at its place. -/
import Derived.Test.YtfpjipmlhbimoaaHpSwap
import Derived.WalkMore
namespace Go.Proofs.Ytfpjipmlhbimoaa
open Go.RowKit

theorem swp_at_to {l : List Th} {i k : Nat} {x y : Th} (hi : l[i]? = some x) (hk : l[k]? = some y) : (swp l i k)[k]? = some x := by
  rw [swp_of hi hk, List.getElem?_set_self (by simpa using (List.getElem?_eq_some_iff.1 hk).1)]

section
variable {w : World} {b : Nat} {v : Value} {l : List Th} {F : Nat → Prop}
/-- What a heap is behind a call that moves its things. -/
def Moved (w : World) (b : Nat) (v : Value) (l : List Th) (F : Nat → Prop) (w' : World) : Prop := ∃ l', HM tHeap tThing w' b v l' F ∧ HeapOk l' ∧ l'.Perm l ∧ Only F w w'

set_option maxRecDepth 100000 in
set_option maxHeartbeats 4000000 in
theorem up_any (h : HM tHeap tThing w b v l F) (hl : 0 < l.length) (hu : UpAt l (l.length - 1)) : Calls Try.prog 18 #[ptr b] w fun e w' => e = .returned (.tuple #[]) ∧ Moved w b v l F w' := by
  have c0 := h.cel.cell 0
  simp only [List.getElem?_cons_zero] at c0
  have hmx := h.row.len
  rcases h.row.shape with ⟨_, rfl⟩ | ⟨g, cap, rfl, hgs, hlc, hcm⟩
  · simp at hl
  obtain ⟨n, hn⟩ : ∃ n, n = l.length := ⟨_, rfl⟩
  rw [← hn] at c0 hl hu hmx
  obtain ⟨r, hrn⟩ : ∃ r, n = r + 1 := ⟨n - 1, by omega⟩
  have en : (n : Int) - 1 = (r : Int) := by omega
  rw [show n - 1 = r from by omega] at hu
  unfold maxLen at hmx
  have hrb : (r : Int) ≤ 9223372036854775806 := by omega
  have hr0 : (0 : Int) ≤ (r : Int) := by omega
  have HH := Lib.hid (And.intro h (And.intro hn (And.intro hu (And.intro hrn hmx))))
  clear h hn hu hl hgs hlc hcm hmx hrn
  go_enter Try.func18, Try.ntmps18
  go_wp2
  go_step3
  go_wp2
  go_step3
  go_wp2
  go_loopw [2] (fun i wr => ∃ (k : Nat) (l' : List Th), i = .int .i64 (k : Int) ∧ k < n ∧ l'.length = n ∧ UpAt l' k ∧ l'.Perm l ∧ HM tHeap tThing wr b (.slice (some ⟨g, 0, none⟩) n cap) l' F ∧ Only F w wr) (fun i _ => (intOf i).toNat)
  case atStart => exact ⟨r, l, rfl, by have := HH.out.2.2.2.1; omega, HH.out.2.1.symm, HH.out.2.2.1, List.Perm.refl _, by have := HH.out.1; rw [← HH.out.2.1] at this; exact this, Only.refl _ _⟩
  case round =>
    obtain ⟨k, l', rfl, hk, hln, hu, hp, hM, hO⟩ := hrel
    by_cases hk0 : 0 < k
    · obtain ⟨j, hj⟩ : ∃ j, k = j + 1 := ⟨k - 1, by omega⟩
      have hmx := HH.out.2.2.2.2
      have hki : (0 : Int) < (k : Int) := by omega
      have hj0 : (0 : Int) ≤ (j : Int) := by omega
      have hjb : (j : Int) ≤ 9223372036854775806 := by omega
      have ej : (k : Int) - 1 = (j : Int) := by omega
      obtain ⟨m, hm⟩ : ∃ m, j / 2 = m := ⟨_, rfl⟩
      have ed : (j : Int).tdiv 2 = (m : Int) := by rw [Int.tdiv_eq_ediv_of_nonneg (by omega)]; omega
      have hm' : (k - 1) / 2 = m := by rw [← hm]; omega
      have hm0 : (0 : Int) ≤ (m : Int) := by omega
      have hmb : (m : Int) ≤ 4611686018427387904 := by omega
      obtain ⟨y, hy⟩ : ∃ y, l'[k]? = some y := ⟨_, List.getElem?_eq_getElem (by omega)⟩
      obtain ⟨x, hx⟩ : ∃ x, l'[m]? = some x := ⟨_, List.getElem?_eq_getElem (by omega)⟩
      have A := ahead_any hM hx (i := k)
      rw [hy] at A
      simp only at A
      have HR := Lib.hid (And.intro hk (And.intro hln (And.intro hu (And.intro hp (And.intro hM (And.intro hO (And.intro hy (And.intro hx (And.intro hm' (And.intro hk0 hmx))))))))))
      clear hk hln hu hp hM hO hy hx hm hm' hk0 hmx hj
      by_cases ha : Ah y x
      · rw [decide_eq_true ha] at A
        go_wp2_with fail
        refine A.mono ?_
        rintro e w1 ⟨rfl, hb1⟩
        obtain ⟨hk, hln, hu, hp, hM, hO, hy, hx, hm, hk0, hmx⟩ := HR.out
        have B := swap_any (hM.below hb1) hy hx
        have HB := Lib.hid hb1
        have HA := Lib.hid ha
        clear hk hln hu hp hM hO hy hx hm hk0 hmx hb1 ha A
        go_wp2_with fail
        refine B.mono ?_
        rintro e w2 ⟨rfl, hM2, hO2⟩
        have H2 := Lib.hid (And.intro hM2 hO2)
        clear hM2 hO2 B
        go_wp2
        go_roundw
        case rel =>
          obtain ⟨hk, hln, hu, hp, hM, hO, hy, hx, hm, hk0, hmx⟩ := HR.out
          subst hm
          exact ⟨(k - 1) / 2, swp l' k ((k - 1) / 2), rfl, by omega, by rw [swp_length]; exact hln, hu.step hk0 hx hy HA.out, (swp_perm _ _ _).trans hp, H2.out.1, (hO.trans (Only.of_below HB.out F)).trans H2.out.2⟩
        case measure =>
          have hm := HR.out.2.2.2.2.2.2.2.2.1
          have hk0 := HR.out.2.2.2.2.2.2.2.2.2.1
          simp only [intOf]
          omega
      · rw [decide_eq_false ha] at A
        have HA := Lib.hid ha
        clear ha
        go_wp2_with fail
        refine A.mono ?_
        rintro e w1 ⟨rfl, hb1⟩
        have HB := Lib.hid hb1
        clear hb1 A
        go_wp2
        rw [Exit.noGoto_normal]
        go_end0
        obtain ⟨hk, hln, hu, hp, hM, hO, hy, hx, hm, hk0, hmx⟩ := HR.out
        subst hm
        refine ⟨rfl, l', ?_, hu.done hx hy HA.out, hp, hO.trans (Only.of_below HB.out F)⟩
        have := hM.below HB.out
        rw [HH.out.2.1] at this
        exact this
    · have hk1 : k = 0 := by omega
      subst hk1
      have HR := Lib.hid (And.intro hln (And.intro hu (And.intro hp (And.intro hM hO))))
      clear hk hln hu hp hM hO hk0
      go_wp2
      rw [Exit.noGoto_normal]
      go_end0
      obtain ⟨hln, hu, hp, hM, hO⟩ := HR.out
      refine ⟨rfl, l', ?_, hu.top, hp, hO⟩
      rw [HH.out.2.1] at hM
      exact hM
end
end Go.Proofs.Ytfpjipmlhbimoaa
