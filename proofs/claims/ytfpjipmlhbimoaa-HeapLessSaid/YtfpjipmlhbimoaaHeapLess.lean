/- The statement HeapLess: what is popped behind a push is the lesser one of what was pushed and what would have been popped; no condition. -/
import Derived.Test.YtfpjipmlhbimoaaHpArgs
namespace Go.Proofs.Ytfpjipmlhbimoaa
open Go.RowKit

theorem Fst.cons_lt {l : List Th} {x y : Th} (h : Fst l x) (ha : Ah x y) : Fst (y :: l) x := ⟨List.mem_cons_of_mem _ h.1, fun z hz => by
  rcases List.mem_cons.1 hz with rfl | hz
  · exact Le.of_ah ha
  · exact h.2 z hz⟩
theorem Fst.cons_ge {l : List Th} {x y : Th} (h : Fst l x) (ha : ¬ Ah x y) : Fst (y :: l) y := ⟨by simp, fun z hz => by
  rcases List.mem_cons.1 hz with rfl | hz
  · exact Le.refl _
  · exact Le.trans ha (h.2 z hz)⟩

set_option maxRecDepth 100000 in
set_option maxHeartbeats 4000000 in
theorem heapLess_any (k i : Int) (w : World) {kv : Value} {ks : List Int} (hk : Iv w kv ks) {p q : Prop} (_ : p) (_ : q) : Calls Try.prog 5 #[kv, .int .i64 k, .int .i64 i] w fun e w' => e = .returned (.bool true) ∧ Below w.heap.size w w' := by
  obtain ⟨ka, kc, rfl⟩ := hk.shape
  obtain ⟨n, hn⟩ : ∃ n, n = ks.length := ⟨_, rfl⟩
  rw [← hn] at hk ⊢
  by_cases hbig : 200 < n
  · have hb : (200 : Int) < (n : Int) := by omega
    clear hk hn
    go_enter Try.func5, Try.ntmps5
    go_wp2_with fail
    refine (works_any w).mono ?_
    rintro e w7 ⟨rfl, hb⟩
    go_wp2
    go_ret
    exact ⟨rfl, hb⟩
  have hnb : (n : Int) ≤ 200 := by omega
  have HK := Lib.hid (And.intro hk (And.intro hn hbig))
  clear hk hn hbig
  go_enter Try.func5, Try.ntmps5
  go_wp2_with fail
  refine (q_new (SL.start w) Emp.fr).mono ?_
  rintro e w1 ⟨rfl, h⟩
  generalize w.heap.size = b at *
  have HS := Lib.hid h
  clear h
  go_wp2
  go_loopw [8] (fun j wr => ∃ (r : Nat) (l : List Th), j = .int .i64 (r : Int) ∧ r ≤ n ∧ l.length = r ∧ SL w wr (Sep (RH b l) Emp)) (fun j _ => n - (intOf j).toNat)
  case atStart => exact ⟨0, [], rfl, Nat.zero_le _, rfl, HS.out⟩
  case round =>
    obtain ⟨r, l, rfl, hr, hl, hS⟩ := hrel
    obtain ⟨hk, hn, hbig⟩ := HK.out
    by_cases hlt : r < n
    · obtain ⟨u, hu⟩ : ∃ u, ks[r]? = some u := ⟨_, List.getElem?_eq_getElem (by omega)⟩
      have hk2 := hk.below hS.under
      rw [hn] at hk2
      obtain ⟨g, o, cap, e0, c0, _⟩ := hk2.open hu
      simp only [Value.slice.injEq] at e0
      obtain ⟨rfl, -, rfl⟩ := e0
      have hil : (r : Int) < (n : Int) := by omega
      have hr0 : (0 : Int) ≤ (r : Int) := by omega
      have P := q_push hS Emp.fr u ((r : Int).tmod 7) (by omega)
      have HP := Lib.hid (And.intro hlt hl)
      clear hk hn hbig hS hk2 hu hlt hl hr
      go_wp2_with fail
      refine P.mono ?_
      rintro e w2 ⟨rfl, h2⟩
      have H2 := Lib.hid h2
      clear h2 P
      go_wp2
      go_roundw
      case rel => exact ⟨r + 1, _, by go_num, HP.out.1, by rw [List.length_cons, HP.out.2], H2.out⟩
      case measure =>
        have := HP.out.1
        simp only [intOf]
        omega
    · obtain rfl : r = n := by omega
      clear hk hr hlt
      have hil : ¬ (r : Int) < (r : Int) := by omega
      rcases l with _ | ⟨z, l'⟩
      · obtain rfl : r = 0 := by simpa using hl.symm
        clear hl hn hbig
        go_wp2_with fail
        refine (q_peek0 hS Emp.fr).mono ?_
        rintro e w2 ⟨rfl, h2⟩
        clear hS
        go_wp2_with fail
        refine (q_push h2 Emp.fr k i (by simp)).mono ?_
        rintro e w3 ⟨rfl, h3⟩
        clear h2
        go_wp2_with fail
        refine (q_pop h3 Emp.fr (x := (k, i)) ⟨by simp, fun y hy => by rw [List.mem_singleton.1 hy]; exact Le.refl _⟩ (by simp)).mono ?_
        rintro e w4 ⟨rfl, h4⟩
        have h4 : SL w w4 (Sep (RH b []) Emp) := by simpa using h4
        clear h3
        go_wp2_with fail
        refine (q_len h4 Emp.fr).mono ?_
        rintro e w5 ⟨rfl, h5⟩
        clear h4
        go_wp2_with fail
        refine (works_any w5).mono ?_
        rintro e w7 ⟨rfl, hb7⟩
        go_wp2
        go_ret
        exact ⟨rfl, h5.under.trans (hb7.mono h5.under.size)⟩
      · obtain ⟨x, hx⟩ := fst_ex (z :: l') (by simp)
        have hrp : 0 < r := by simp at hl; omega
        have hri : (0 : Int) < (r : Int) := by omega
        generalize z :: l' = m at *
        have HL := Lib.hid (And.intro hl hbig)
        clear hbig hn
        go_wp2_with fail
        refine (q_peek hS Emp.fr hx).mono ?_
        rintro e w2 ⟨rfl, h2⟩
        clear hS
        go_wp2_with fail
        refine (q_push h2 Emp.fr k i (by omega)).mono ?_
        rintro e w3 ⟨rfl, h3⟩
        clear h2
        obtain ⟨x1, x2⟩ := x
        have hlen : ∀ y, Fst ((k, i) :: m) y → (((k, i) :: m).erase y).length = r := fun y hy => by
          rw [List.length_erase_of_mem hy.1]
          simpa using hl
        have HN := Lib.hid hlen
        by_cases ha : Ah (x1, x2) (k, i)
        · have P := q_pop h3 Emp.fr (hx.cons_lt ha) (by simp; omega)
          have HE := Lib.hid (HN.out _ (hx.cons_lt ha))
          have HA := Lib.hid ha
          clear hx ha h3 hl hlen
          go_wp2_with fail
          refine P.mono ?_
          rintro e w4 ⟨rfl, h4⟩
          clear P
          have P := q_len h4 Emp.fr
          rw [HE.out] at P
          go_wp2_with fail
          refine P.mono ?_
          rintro e w5 ⟨rfl, h5⟩
          clear P h4
          have ha := HA.out
          unfold Ah at ha
          simp only at ha
          by_cases c1 : x1 < k
          · clear ha
            go_wp2_with fail
            refine (works_any w5).mono ?_
            rintro e w7 ⟨rfl, hb7⟩
            go_wp2
            go_ret
            exact ⟨rfl, h5.under.trans (hb7.mono h5.under.size)⟩
          · obtain ⟨rfl, c2⟩ : x1 = k ∧ x2 < i := by omega
            clear ha
            go_wp2_with fail
            refine (works_any w5).mono ?_
            rintro e w7 ⟨rfl, hb7⟩
            go_wp2
            go_ret
            exact ⟨rfl, h5.under.trans (hb7.mono h5.under.size)⟩
        · have P := q_pop h3 Emp.fr (hx.cons_ge ha) (by simp; omega)
          have HE := Lib.hid (HN.out _ (hx.cons_ge ha))
          have HA := Lib.hid ha
          clear hx ha h3 hl hlen
          go_wp2_with fail
          refine P.mono ?_
          rintro e w4 ⟨rfl, h4⟩
          clear P
          have P := q_len h4 Emp.fr
          rw [HE.out] at P
          go_wp2_with fail
          refine P.mono ?_
          rintro e w5 ⟨rfl, h5⟩
          clear P h4
          have ha := HA.out
          unfold Ah at ha
          simp only at ha
          have c1 : ¬ x1 < k := by omega
          by_cases c2 : x1 = k
          · subst c2
            have c3 : ¬ x2 < i := by omega
            clear ha
            go_wp2_with fail
            refine (works_any w5).mono ?_
            rintro e w7 ⟨rfl, hb7⟩
            go_wp2
            go_ret
            exact ⟨rfl, h5.under.trans (hb7.mono h5.under.size)⟩
          · clear ha
            go_wp2_with fail
            refine (works_any w5).mono ?_
            rintro e w7 ⟨rfl, hb7⟩
            go_wp2
            go_ret
            exact ⟨rfl, h5.under.trans (hb7.mono h5.under.size)⟩
end Go.Proofs.Ytfpjipmlhbimoaa
