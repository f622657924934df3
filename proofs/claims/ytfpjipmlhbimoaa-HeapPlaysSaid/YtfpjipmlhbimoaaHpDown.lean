/- Moving the first thing of a heap back; condition: all is in order but at its place. -/
import Derived.Test.YtfpjipmlhbimoaaHpUp
namespace Go.Proofs.Ytfpjipmlhbimoaa
open Go.RowKit

section
variable {w : World} {b : Nat} {v : Value} {l : List Th} {F : Nat → Prop}
/-- Which one stands ahead: of two below, and the one above them. -/
def ahB (l : List Th) (i k : Nat) : Bool := match l[i]?, l[k]? with
  | some x, some y => decide (Ah x y)
  | _, _ => false
theorem ahead_b {i k : Nat} (h : HM tHeap tThing w b v l F) (hk : k < l.length ∨ l.length ≤ i) (hne : l ≠ []) :
    Calls Try.prog 21 #[ptr b, .int .i64 (i : Int), .int .i64 (k : Int)] w fun e w' => e = .returned (.bool (ahB l i k)) ∧ Below w.heap.size w w' := by
  by_cases hk' : k < l.length
  · have hy := List.getElem?_eq_getElem hk'
    refine (ahead_any h hy (i := i)).mono ?_
    rintro e w' ⟨rfl, hb⟩
    refine ⟨?_, hb⟩
    unfold ahB
    rw [hy]
    rcases l[i]? with _ | x <;> rfl
  · have hi : l.length ≤ i := by omega
    have hx : l[i]? = none := List.getElem?_eq_none hi
    have e : ahB l i k = false := by
      unfold ahB
      rw [hx]
    rw [e]
    have c0 := h.cel.cell 0
    simp only [List.getElem?_cons_zero] at c0
    rcases h.row.shape with ⟨_, rfl⟩ | ⟨g, cap, rfl, _⟩
    · exact absurd rfl hne
    obtain ⟨n, hn⟩ : ∃ n, n = l.length := ⟨_, rfl⟩
    rw [← hn] at c0 hi
    have hi1 : ¬ (i : Int) < (n : Int) := by omega
    clear h hk hx hn hne hk' hi e
    go_enter Try.func21, Try.ntmps21
    go_wp2
    go_ret
    exact ⟨rfl, Below.refl _ _⟩
theorem ahead_nil {i k : Nat} (h : HM tHeap tThing w b v [] F) :
    Calls Try.prog 21 #[ptr b, .int .i64 (i : Int), .int .i64 (k : Int)] w fun e w' => e = .returned (.bool false) ∧ Below w.heap.size w w' := by
  have c0 := h.cel.cell 0
  simp only [List.getElem?_cons_zero] at c0
  have hs := Rw.of_own h.row
  obtain ⟨a, cap, rfl, _⟩ := hs
  have hi1 : ¬ (i : Int) < 0 := by omega
  simp only [List.length_nil] at c0
  clear h
  go_enter Try.func21, Try.ntmps21
  go_wp2
  go_ret
  exact ⟨rfl, Below.refl _ _⟩
theorem ahB_lt {i k : Nat} (h : ahB l i k = true) : ∃ x y, l[i]? = some x ∧ l[k]? = some y ∧ Ah x y := by
  unfold ahB at h
  split at h
  · rename_i x y hx hy
    exact ⟨x, y, hx, hy, of_decide_eq_true h⟩
  · cases h
theorem ahB_not {i k : Nat} {x y : Th} (h : ahB l i k = false) (hx : l[i]? = some x) (hy : l[k]? = some y) : Le y x := by
  unfold ahB at h
  rw [hx, hy] at h
  exact of_decide_eq_false h

theorem down_right {k : Nat} (hd : DownAt l k) (h1 : ahB l (2 * k + 2) (2 * k + 1) = true) (h2 : ahB l (2 * k + 2) k = true) : DownAt (swp l k (2 * k + 2)) (2 * k + 2) := by
  obtain ⟨y, z, hy, hz, hyz⟩ := ahB_lt h1
  obtain ⟨y', x, hy', hx, hyx⟩ := ahB_lt h2
  rw [hy] at hy'
  cases hy'
  refine hd.step (by omega) (by omega) hx hy hyx fun j z' hj hjk hz' => ?_
  have : j = 2 * k + 1 ∨ j = 2 * k + 2 := by omega
  rcases this with rfl | rfl
  · rw [hz] at hz'
    cases hz'
    exact Le.of_ah hyz
  · rw [hy] at hz'
    cases hz'
    exact Le.refl _
theorem down_left {k : Nat} (hd : DownAt l k) (h1 : ahB l (2 * k + 2) (2 * k + 1) = false ∨ ahB l (2 * k + 2) k = false) (h2 : ahB l (2 * k + 1) k = true) : DownAt (swp l k (2 * k + 1)) (2 * k + 1) := by
  obtain ⟨y, x, hy, hx, hyx⟩ := ahB_lt h2
  refine hd.step (by omega) (by omega) hx hy hyx fun j z' hj hjk hz' => ?_
  have : j = 2 * k + 1 ∨ j = 2 * k + 2 := by omega
  rcases this with rfl | rfl
  · rw [hy] at hz'
    cases hz'
    exact Le.refl _
  · rcases h1 with h | h
    · exact ahB_not h hz' hy
    · exact (Le.of_ah hyx).trans (ahB_not h hz' hx)
theorem down_done {k : Nat} (hd : DownAt l k) (h1 : ahB l (2 * k + 2) (2 * k + 1) = false ∨ ahB l (2 * k + 2) k = false) (h2 : ahB l (2 * k + 1) k = false) : HeapOk l := by
  refine hd.done fun j x y hj hjk hx hy => ?_
  have : j = 2 * k + 1 ∨ j = 2 * k + 2 := by omega
  rcases this with rfl | rfl
  · exact ahB_not h2 hy hx
  · rcases h1 with h | h
    · have hl := (List.getElem?_eq_some_iff.1 hy).1
      obtain ⟨z, hz⟩ : ∃ z, l[2 * k + 1]? = some z := ⟨_, List.getElem?_eq_getElem (by omega)⟩
      exact (ahB_not h2 hz hx).trans (ahB_not h hy hz)
    · exact ahB_not h hy hx

set_option maxRecDepth 100000 in
set_option maxHeartbeats 4000000 in
theorem down_any (h : HM tHeap tThing w b v l F) (hd : DownAt l 0) (hmx : l.length ≤ 4294967296) : Calls Try.prog 19 #[ptr b] w fun e w' => e = .returned (.tuple #[]) ∧ Moved w b v l F w' := by
  by_cases hne : l = []
  · subst hne
    have A1 : ∀ W, Below w.heap.size w W → _ := fun W hW => ahead_nil (i := 2) (k := 1) (h.below hW)
    have A3 : ∀ W, Below w.heap.size w W → _ := fun W hW => ahead_nil (i := 1) (k := 0) (h.below hW)
    have HH := Lib.hid h
    clear h hd hmx
    go_enter Try.func19, Try.ntmps19
    go_wp2
    go_step3
    go_wp2
    go_step3
    go_wp2
    go_loopw [2] (fun i wr => i = .int .i64 0 ∧ w = wr) (fun i _ => 0)
    case atStart => exact ⟨rfl, rfl⟩
    case round =>
      obtain ⟨rfl, rfl⟩ := hrel
      go_wp2_with fail
      refine (A1 _ (Below.refl _ _)).mono ?_
      rintro e w1 ⟨rfl, hb1⟩
      have HB1 := Lib.hid hb1
      clear hb1 A1
      go_wp2_with fail
      refine (A3 _ HB1.out).mono ?_
      rintro e w2 ⟨rfl, hbn⟩
      have HB2 := Lib.hid (HB1.out.trans (hbn.mono HB1.out.size))
      clear hbn A3
      go_wp2
      rw [Exit.noGoto_normal]
      go_end0
      exact ⟨rfl, [], HH.out.below HB2.out, HeapOk.nil, List.Perm.refl _, Only.of_below HB2.out F⟩
  have hl : 0 < l.length := List.length_pos_iff.2 hne
  have HH := Lib.hid (And.intro h (And.intro hd (And.intro hl hmx)))
  clear h hd hl hmx hne
  go_enter Try.func19, Try.ntmps19
  go_wp2
  go_step3
  go_wp2
  go_step3
  go_wp2
  go_loopw [2] (fun i wr => ∃ (k : Nat) (l' : List Th), i = .int .i64 (k : Int) ∧ k < l.length ∧ l'.length = l.length ∧ DownAt l' k ∧ l'.Perm l ∧ HM tHeap tThing wr b v l' F ∧ Only F w wr) (fun i _ => l.length - (intOf i).toNat)
  case atStart => exact ⟨0, l, rfl, HH.out.2.2.1, rfl, HH.out.2.1, List.Perm.refl _, HH.out.1, Only.refl _ _⟩
  case round =>
    obtain ⟨k, l', rfl, hk, hln, hu, hp, hM, hO⟩ := hrel
    have hmx := HH.out.2.2.2
    have hk0 : (0 : Int) ≤ (k : Int) := by omega
    have hkb' : (k : Int) ≤ 4294967296 := by omega
    obtain ⟨lf, hlf⟩ : ∃ lf, lf = 2 * k + 1 := ⟨_, rfl⟩
    obtain ⟨rt, hrt⟩ : ∃ rt, rt = 2 * k + 2 := ⟨_, rfl⟩
    have el : 2 * (k : Int) + 1 = (lf : Int) := by omega
    have er : 2 * (k : Int) + 2 = (rt : Int) := by omega
    have hne : l' ≠ [] := by
      rintro rfl
      simp at hln
      omega
    have A1 : ∀ W, Below wr.heap.size wr W → _ := fun W hW => ahead_b (i := rt) (k := lf) (hM.below hW) (by omega) hne
    have A2 : ∀ W, Below wr.heap.size wr W → _ := fun W hW => ahead_b (i := rt) (k := k) (hM.below hW) (by omega) hne
    have A3 : ∀ W, Below wr.heap.size wr W → _ := fun W hW => ahead_b (i := lf) (k := k) (hM.below hW) (by omega) hne
    obtain ⟨b1, hb1⟩ : ∃ b1, ahB l' rt lf = b1 := ⟨_, rfl⟩
    obtain ⟨b2, hb2⟩ : ∃ b2, ahB l' rt k = b2 := ⟨_, rfl⟩
    obtain ⟨b3, hb3⟩ : ∃ b3, ahB l' lf k = b3 := ⟨_, rfl⟩
    rw [hb1] at A1
    rw [hb2] at A2
    rw [hb3] at A3
    have HR := Lib.hid (And.intro hk (And.intro hln (And.intro hu (And.intro hp (And.intro hM (And.intro hO (And.intro hlf hrt)))))))
    have H1 := Lib.hid hb1
    have H2 := Lib.hid hb2
    have H3 := Lib.hid hb3
    clear hk hln hu hp hM hO hlf hrt hne hmx hb1 hb2 hb3
    go_wp2_with fail
    refine (A1 _ (Below.refl _ _)).mono ?_
    rintro e w1 ⟨rfl, hbn⟩
    have HB1 := Lib.hid hbn
    clear hbn A1
    rcases b1 with _ | _
    · clear A2
      go_wp2_with fail
      rcases b3 with _ | _
      · refine (A3 _ HB1.out).mono ?_
        rintro e w3 ⟨rfl, hbn⟩
        have HB3 := Lib.hid (HB1.out.trans (hbn.mono HB1.out.size))
        clear hbn A3
        go_wp2
        rw [Exit.noGoto_normal]
        go_end0
        obtain ⟨hk, hln, hu, hp, hM, hO, hlf, hrt⟩ := HR.out
        have h1 := H1.out
        have h2 := H2.out
        have h3 := H3.out
        subst hlf hrt
        exact ⟨rfl, l', hM.below HB3.out, down_done hu (.inl h1) h3, hp, hO.trans (Only.of_below HB3.out F)⟩
      · refine (A3 _ HB1.out).mono ?_
        rintro e w3 ⟨rfl, hbn⟩
        have HB3 := Lib.hid (HB1.out.trans (hbn.mono HB1.out.size))
        clear hbn A3
        obtain ⟨hk, hln, hu, hp, hM, hO, hlf, hrt⟩ := HR.out
        obtain ⟨y, x, hy, hx, -⟩ := ahB_lt H3.out
        have B := swap_any (hM.below HB3.out) hx hy
        have hyl := (List.getElem?_eq_some_iff.1 hy).1
        have HY := Lib.hid hyl
        clear hk hln hu hp hM hO hlf hrt hy hx hyl
        go_wp2_with fail
        refine B.mono ?_
        rintro e w4 ⟨rfl, hM2, hO2⟩
        have HE := Lib.hid (And.intro hM2 hO2)
        clear hM2 hO2 B
        go_wp2
        go_roundw
        case rel =>
          obtain ⟨hk, hln, hu, hp, hM, hO, hlf, hrt⟩ := HR.out
          have h1 := H1.out
          have h2 := H2.out
          have h3 := H3.out
          have hyl := HY.out
          subst hlf hrt
          exact ⟨2 * k + 1, swp l' k (2 * k + 1), rfl, by omega, by rw [swp_length]; exact hln, down_left hu (.inl h1) h3, (swp_perm _ _ _).trans hp, HE.out.1, (hO.trans (Only.of_below HB3.out F)).trans HE.out.2⟩
        case measure =>
          obtain ⟨hk, hln, hu, hp, hM, hO, hlf, hrt⟩ := HR.out
          have hyl := HY.out
          simp only [intOf]
          omega
    · go_wp2_with fail
      rcases b2 with _ | _
      · refine (A2 _ HB1.out).mono ?_
        rintro e w2 ⟨rfl, hbn⟩
        have HB2 := Lib.hid (HB1.out.trans (hbn.mono HB1.out.size))
        clear hbn A2
        go_wp2_with fail
        rcases b3 with _ | _
        · refine (A3 _ HB2.out).mono ?_
          rintro e w3 ⟨rfl, hbn⟩
          have HB3 := Lib.hid (HB2.out.trans (hbn.mono HB2.out.size))
          clear hbn A3
          go_wp2
          rw [Exit.noGoto_normal]
          go_end0
          obtain ⟨hk, hln, hu, hp, hM, hO, hlf, hrt⟩ := HR.out
          have h1 := H1.out
          have h2 := H2.out
          have h3 := H3.out
          subst hlf hrt
          exact ⟨rfl, l', hM.below HB3.out, down_done hu (.inr h2) h3, hp, hO.trans (Only.of_below HB3.out F)⟩
        · refine (A3 _ HB2.out).mono ?_
          rintro e w3 ⟨rfl, hbn⟩
          have HB3 := Lib.hid (HB2.out.trans (hbn.mono HB2.out.size))
          clear hbn A3
          obtain ⟨hk, hln, hu, hp, hM, hO, hlf, hrt⟩ := HR.out
          obtain ⟨y, x, hy, hx, -⟩ := ahB_lt H3.out
          have B := swap_any (hM.below HB3.out) hx hy
          have hyl := (List.getElem?_eq_some_iff.1 hy).1
          have HY := Lib.hid hyl
          clear hk hln hu hp hM hO hlf hrt hy hx hyl
          go_wp2_with fail
          refine B.mono ?_
          rintro e w4 ⟨rfl, hM2, hO2⟩
          have HE := Lib.hid (And.intro hM2 hO2)
          clear hM2 hO2 B
          go_wp2
          go_roundw
          case rel =>
            obtain ⟨hk, hln, hu, hp, hM, hO, hlf, hrt⟩ := HR.out
            have h1 := H1.out
            have h2 := H2.out
            have h3 := H3.out
            have hyl := HY.out
            subst hlf hrt
            exact ⟨2 * k + 1, swp l' k (2 * k + 1), rfl, by omega, by rw [swp_length]; exact hln, down_left hu (.inr h2) h3, (swp_perm _ _ _).trans hp, HE.out.1, (hO.trans (Only.of_below HB3.out F)).trans HE.out.2⟩
          case measure =>
            obtain ⟨hk, hln, hu, hp, hM, hO, hlf, hrt⟩ := HR.out
            have hyl := HY.out
            simp only [intOf]
            omega
      · refine (A2 _ HB1.out).mono ?_
        rintro e w2 ⟨rfl, hbn⟩
        have HB2 := Lib.hid (HB1.out.trans (hbn.mono HB1.out.size))
        clear hbn A2 A3
        obtain ⟨hk, hln, hu, hp, hM, hO, hlf, hrt⟩ := HR.out
        obtain ⟨y, x, hy, hx, -⟩ := ahB_lt H2.out
        have B := swap_any (hM.below HB2.out) hx hy
        have hyl := (List.getElem?_eq_some_iff.1 hy).1
        have HY := Lib.hid hyl
        clear hk hln hu hp hM hO hlf hrt hy hx hyl
        go_wp2_with fail
        refine B.mono ?_
        rintro e w4 ⟨rfl, hM2, hO2⟩
        have HE := Lib.hid (And.intro hM2 hO2)
        clear hM2 hO2 B
        go_wp2
        go_roundw
        case rel =>
          obtain ⟨hk, hln, hu, hp, hM, hO, hlf, hrt⟩ := HR.out
          have h1 := H1.out
          have h2 := H2.out
          have h3 := H3.out
          have hyl := HY.out
          subst hlf hrt
          exact ⟨2 * k + 2, swp l' k (2 * k + 2), rfl, by omega, by rw [swp_length]; exact hln, down_right hu h1 h2, (swp_perm _ _ _).trans hp, HE.out.1, (hO.trans (Only.of_below HB2.out F)).trans HE.out.2⟩
        case measure =>
          obtain ⟨hk, hln, hu, hp, hM, hO, hlf, hrt⟩ := HR.out
          have hyl := HY.out
          simp only [intOf]
          omega
end
end Go.Proofs.Ytfpjipmlhbimoaa
