/- Write of the document's device; conditions: it lies in memory; fewer than 2^32 things are loose in the block. -/
import Derived.Test.YtcgecjedgbmmkaaRefWrote
import Derived.Test.YtcgecjedgbmmkaaDevWrite
namespace Go.Proofs.Ytcgecjedgbmmkaa
open Go.RowKit Go.Maps

/-- What the region of a Write reads stays. -/
def KeepsR (r g : Nat) (w1 w : World) : Prop := w.heap[r]? = w1.heap[r]? ∧ w.heap[g]? = w1.heap[g]?

section
variable {w : World} {r : Nat} {D : Dv} {F : Nat → Prop}

theorem rwrite_off (h : Ref w r D F) (ho : D.on = false) (k : Int) (v : Value) : Calls Try.prog 23 #[ptr r, .int .i64 k, v] w fun e w' => e = .returned (err 8) ∧ w = w' := by
  obtain ⟨g, cap, cur, lv, h⟩ := h
  obtain ⟨_, c1, c2, _, f1, f2⟩ := h.top
  rw [ho] at c2
  clear h ho
  go_enter Try.func23, Try.ntmps23
  go_wp2
  go_ret
  exact ⟨rfl, rfl⟩

theorem rwrite_no (h : Ref w r D F) (ho : D.on = true) (k : Int) (hk : k < 0 ∨ (D.bk.length : Int) ≤ k) (v : Value) : Calls Try.prog 23 #[ptr r, .int .i64 k, v] w fun e w' => e = .returned (err 1) ∧ w = w' := by
  have h0 := h
  obtain ⟨g, cap, cur, lv, h⟩ := h
  obtain ⟨_, c1, c2, _, f1, f2⟩ := h.top
  rw [ho] at c2
  clear h ho
  go_enter Try.func23, Try.ntmps23
  go_wp2_with fail
  refine (rhas_no h0 k hk).mono ?_
  rintro e w1 ⟨rfl, rfl⟩
  go_wp2
  go_ret
  exact ⟨rfl, rfl⟩

theorem rwrite_short (h : Ref w r D F) (ho : D.on = true) (k : Nat) (hk : k < D.bk.length) {v : Value} {l : Bytes} (hv : Bs w v l) (hl : l.length ≠ 512) : Calls Try.prog 23 #[ptr r, .int .i64 (k : Int), v] w fun e w' => e = .returned (err 1) ∧ w = w' := by
  obtain ⟨a, c, rfl, _⟩ := hv.shape
  have hq : (((l.length : Int)) != 512) = true := by rw [bne_iff_ne]; omega
  have h0 := h
  obtain ⟨g, cap, cur, lv, h⟩ := h
  obtain ⟨_, c1, c2, _, f1, f2⟩ := h.top
  rw [ho] at c2
  clear h ho hl hv
  go_enter Try.func23, Try.ntmps23
  go_wp2_with fail
  refine (rhas_yes h0 k hk).mono ?_
  rintro e w1 ⟨rfl, rfl⟩
  go_wp2
  go_ret
  exact ⟨rfl, rfl⟩

theorem rwrite_dies (h : Ref w r D F) (ho : D.on = true) (hz : D.left = 0) (k : Nat) (hk : k < D.bk.length) {v : Value} {l : Bytes} (hv : Bs w v l) (hl : l.length = 512) :
    Calls Try.prog 23 #[ptr r, .int .i64 (k : Int), v] w fun e w' => e = .returned (err 8) ∧ Ref w' r ⟨D.bk, false, D.left⟩ F ∧ Only (· = r) w w' := by
  obtain ⟨a, c, rfl, _⟩ := hv.shape
  rw [hl]
  have h0 := h
  obtain ⟨g, cap, cur, lv, h⟩ := h
  obtain ⟨_, c1, c2, _, f1, f2⟩ := h.top
  rw [ho] at c2
  have HO := Lib.hid hz
  clear h ho hl hv hz
  go_enter Try.func23, Try.ntmps23
  go_wp2_with fail
  refine (rhas_yes h0 k hk).mono ?_
  rintro e w1 ⟨rfl, rfl⟩
  go_wp2_with fail
  refine (goes_dies h0 HO.out).mono ?_
  rintro e w1 ⟨rfl, hh⟩
  go_wp2
  go_ret
  exact ⟨rfl, hh⟩

set_option maxRecDepth 100000 in
set_option maxHeartbeats 1000000 in
theorem rwrite_ok (h : Ref w r D F) (ho : D.on = true) (hz : D.left ≠ 0) {k : Nat} {x : Bk} (hx : D.bk[k]? = some x) (hs : x.loose.length < 4294967296) {v : Value} {l : Bytes} (hv : Bs w v l) (hl : l.length = 512)
    (hoff : ∀ q, v.ownBlock = some q → ¬ F q) :
    Calls Try.prog 23 #[ptr r, .int .i64 (k : Int), v] w fun e w' => e = .returned (err 0) ∧ Ref w' r ⟨wrote D.bk k l, D.on, spent D.left⟩ (Grow F w w') ∧ Only F w w' := by
  have hk := (List.getElem?_eq_some_iff.1 hx).1
  obtain ⟨a, c, rfl, hb⟩ := hv.shape
  have hlen : (Value.slice a l.length c) = .slice a 512 c := by rw [hl]
  rw [hlen] at hb hoff ⊢
  have HO := Lib.hid (And.intro hz (And.intro hx hl))
  have h0 := h
  obtain ⟨g, cap, cur, lv, h⟩ := h
  have c2 := h.top.2.2.1
  rw [ho] at c2
  have HT := Lib.hid ho
  clear hl hv hz hx hlen h ho
  go_enter Try.func23, Try.ntmps23
  go_wp2_with fail
  refine (rhas_yes h0 k hk).mono ?_
  rintro e w1 ⟨rfl, rfl⟩
  go_wp2_with fail
  refine (goes_on h0 HO.out.1).mono ?_
  rintro e w1 ⟨rfl, h1, o1⟩
  clear c2
  have fr := h0.fr
  obtain ⟨g, cap, cur, lv, h1⟩ := h1
  go_wp2_with fail
  have hb1 : Bs w1 (.slice a 512 c) l := hb.only o1 (fun q hq e => hoff q hq (e ▸ fr))
  have hlv := (h1.loose k x HO.out.2.1).shape
  obtain ⟨la, lc, hlv⟩ := hlv
  have hfew := h1.few
  have hroom := h1.room
  obtain ⟨t0, _⟩ := h1.top
  obtain ⟨_, a1, _⟩ := h1.at HO.out.2.1
  have HV := Lib.hid hlv
  clear hlv
  simp only at t0 hfew hroom
  obtain ⟨n, hn⟩ : ∃ n, n = D.bk.length := ⟨_, rfl⟩
  obtain ⟨V, hV⟩ : ∃ V, V = lv k := ⟨_, rfl⟩
  rw [← hn] at t0 hfew hroom hk
  rw [← hV] at a1
  have HN := Lib.hid (And.intro hn hV)
  clear hn hV
  have HC := Lib.hid (fun (W : World) (hW : KeepsR r g w1 W ∧ Bs W (.slice a 512 c) l) =>
    And.intro ((World.cell?_of_block (w := w1) (a := ⟨r, 0, none⟩) hW.1.1).trans t0) (And.intro ((World.cell?_of_block (w := w1) (a := ⟨g, k * 2 + 1, none⟩) hW.1.2).trans a1) (And.intro hk (run_string_bs bt (d := 9) Try.underlying9 W hW.2))))
  clear t0 a1
  have HB := Lib.hid hb1
  refine region_till 19 (fun W => KeepsR r g w1 W ∧ Bs W (.slice a 512 c) l) (by kernel_rfl) ⟨⟨rfl, rfl⟩, hb1.drewN 1⟩ (fun hS => ?_)
  refine take_till (i := 0) (some 23) (ptr r) rfl rfl (by kernel_rfl) (by kernel_rfl) (by kernel_rfl) (by kernel_rfl) (by decide) (fun _ _ _ h => h) (by rfl) (fun W hW => ?_) hS ?_
  · have hc := HC.out W hW
    obtain ⟨hc1, hc2, hc3, hc4⟩ := hc
    clear hW
    go_simp
  simp only [Act.put, List.setIfInBounds_toArray, List.set_cons_zero, List.set_cons_succ]
  refine take_till (i := 1) (some 24) (ptr r) rfl rfl (by kernel_rfl) (by kernel_rfl) (by kernel_rfl) (by kernel_rfl) (by decide) (fun _ _ _ h => h) (by rfl) (fun W hW => ?_) hS ?_
  · have hc := HC.out W hW
    obtain ⟨hc1, hc2, hc3, hc4⟩ := hc
    clear hW
    go_simp
  simp only [Act.put, List.setIfInBounds_toArray, List.set_cons_zero, List.set_cons_succ]
  refine take_till (i := 2) (some 25) (ptr r) rfl rfl (by kernel_rfl) (by kernel_rfl) (by kernel_rfl) (by kernel_rfl) (by decide) (fun _ _ _ h => h) (by rfl) (fun W hW => ?_) hS ?_
  · have hc := HC.out W hW
    obtain ⟨hc1, hc2, hc3, hc4⟩ := hc
    clear hW
    go_simp
  simp only [Act.put, List.setIfInBounds_toArray, List.set_cons_zero, List.set_cons_succ]
  refine take_till (i := 3) (some 26) (.slice (some ⟨g, 0, none⟩) n cap) rfl rfl (by kernel_rfl) (by kernel_rfl) (by kernel_rfl) (by kernel_rfl) (by decide) (fun _ _ _ h => h) (by rfl) (fun W hW => ?_) hS ?_
  · have hc := HC.out W hW
    obtain ⟨hc1, hc2, hc3, hc4⟩ := hc
    clear hW
    go_simp
  simp only [Act.put, List.setIfInBounds_toArray, List.set_cons_zero, List.set_cons_succ]
  refine take_till (i := 4) (some 27) (.int .i64 (k : Int)) rfl rfl (by kernel_rfl) (by kernel_rfl) (by kernel_rfl) (by kernel_rfl) (by decide) (fun _ _ _ h => h) (by rfl) (fun W hW => ?_) hS ?_
  · have hc := HC.out W hW
    obtain ⟨hc1, hc2, hc3, hc4⟩ := hc
    clear hW
    go_simp
  simp only [Act.put, List.setIfInBounds_toArray, List.set_cons_zero, List.set_cons_succ]
  refine take_till (i := 5) (some 28) (ptr r) rfl rfl (by kernel_rfl) (by kernel_rfl) (by kernel_rfl) (by kernel_rfl) (by decide) (fun _ _ _ h => h) (by rfl) (fun W hW => ?_) hS ?_
  · have hc := HC.out W hW
    obtain ⟨hc1, hc2, hc3, hc4⟩ := hc
    clear hW
    go_simp
  simp only [Act.put, List.setIfInBounds_toArray, List.set_cons_zero, List.set_cons_succ]
  refine take_till (i := 6) (some 29) (ptr r) rfl rfl (by kernel_rfl) (by kernel_rfl) (by kernel_rfl) (by kernel_rfl) (by decide) (fun _ _ _ h => h) (by rfl) (fun W hW => ?_) hS ?_
  · have hc := HC.out W hW
    obtain ⟨hc1, hc2, hc3, hc4⟩ := hc
    clear hW
    go_simp
  simp only [Act.put, List.setIfInBounds_toArray, List.set_cons_zero, List.set_cons_succ]
  refine take_till (i := 7) (some 30) (ptr r) rfl rfl (by kernel_rfl) (by kernel_rfl) (by kernel_rfl) (by kernel_rfl) (by decide) (fun _ _ _ h => h) (by rfl) (fun W hW => ?_) hS ?_
  · have hc := HC.out W hW
    obtain ⟨hc1, hc2, hc3, hc4⟩ := hc
    clear hW
    go_simp
  simp only [Act.put, List.setIfInBounds_toArray, List.set_cons_zero, List.set_cons_succ]
  refine take_till (i := 8) (some 31) (.slice (some ⟨g, 0, none⟩) n cap) rfl rfl (by kernel_rfl) (by kernel_rfl) (by kernel_rfl) (by kernel_rfl) (by decide) (fun _ _ _ h => h) (by rfl) (fun W hW => ?_) hS ?_
  · have hc := HC.out W hW
    obtain ⟨hc1, hc2, hc3, hc4⟩ := hc
    clear hW
    go_simp
  simp only [Act.put, List.setIfInBounds_toArray, List.set_cons_zero, List.set_cons_succ]
  refine take_till (i := 9) (some 32) (.int .i64 (k : Int)) rfl rfl (by kernel_rfl) (by kernel_rfl) (by kernel_rfl) (by kernel_rfl) (by decide) (fun _ _ _ h => h) (by rfl) (fun W hW => ?_) hS ?_
  · have hc := HC.out W hW
    obtain ⟨hc1, hc2, hc3, hc4⟩ := hc
    clear hW
    go_simp
  simp only [Act.put, List.setIfInBounds_toArray, List.set_cons_zero, List.set_cons_succ]
  refine take_till (i := 10) (some 33) (.pointer (some ⟨g, k * 2, none⟩)) rfl rfl (by kernel_rfl) (by kernel_rfl) (by kernel_rfl) (by kernel_rfl) (by decide) (fun _ _ _ h => h) (by rfl) (fun W hW => ?_) hS ?_
  · have hc := HC.out W hW
    obtain ⟨hc1, hc2, hc3, hc4⟩ := hc
    clear hW
    go_simp
  simp only [Act.put, List.setIfInBounds_toArray, List.set_cons_zero, List.set_cons_succ]
  refine take_till (i := 11) (some 34) (.pointer (some ⟨g, k * 2 + 1, none⟩)) rfl rfl (by kernel_rfl) (by kernel_rfl) (by kernel_rfl) (by kernel_rfl) (by decide) (fun _ _ _ h => h) (by rfl) (fun W hW => ?_) hS ?_
  · have hc := HC.out W hW
    obtain ⟨hc1, hc2, hc3, hc4⟩ := hc
    clear hW
    go_simp
  simp only [Act.put, List.setIfInBounds_toArray, List.set_cons_zero, List.set_cons_succ]
  refine take_till (i := 12) (some 35) (V) rfl rfl (by kernel_rfl) (by kernel_rfl) (by kernel_rfl) (by kernel_rfl) (by decide) (fun _ _ _ h => h) (by rfl) (fun W hW => ?_) hS ?_
  · have hc := HC.out W hW
    obtain ⟨hc1, hc2, hc3, hc4⟩ := hc
    clear hW
    go_simp
  simp only [Act.put, List.setIfInBounds_toArray, List.set_cons_zero, List.set_cons_succ]
  refine take_till (i := 13) (some 36) (.slice a 512 c) rfl rfl (by kernel_rfl) (by kernel_rfl) (by kernel_rfl) (by kernel_rfl) (by decide) (fun _ _ _ h => h) (by rfl) (fun W hW => ?_) hS ?_
  · have hc := HC.out W hW
    obtain ⟨hc1, hc2, hc3, hc4⟩ := hc
    clear hW
    go_simp
  simp only [Act.put, List.setIfInBounds_toArray, List.set_cons_zero, List.set_cons_succ]
  refine take_till (i := 14) (some 37) (str l) rfl rfl (by kernel_rfl) (by kernel_rfl) (by kernel_rfl) (by kernel_rfl) (by decide) (fun _ _ _ h => h) (by rfl) (fun W hW => ?_) hS ?_
  · have hc := HC.out W hW
    obtain ⟨hc1, hc2, hc3, hc4⟩ := hc
    clear hW
    go_simp
  simp only [Act.put, List.setIfInBounds_toArray, List.set_cons_zero, List.set_cons_succ]
  obtain ⟨v', w4, hrun4, r4, g4, ⟨va, vn, vc, hv'⟩, href, honly, h04⟩ := h1.puts HO.out.2.1 hs l (w2 := w1.drew) ⟨rfl, rfl, rfl, Nat.le_refl _, fun _ _ => rfl⟩
  have hb3 : Below w1.heap.size w1 (w1.drew.alloc (.cells #[str l] 9)) := (show Below w1.heap.size w1 w1.drew from ⟨rfl, rfl, rfl, Nat.le_refl _, fun _ _ => rfl⟩).alloc (Nat.le_refl _) _
  have hlt := fun q hq => h1.fl q hq
  have hoff1 : ∀ q, (Value.slice a 512 c).ownBlock = some q → ¬ F q := hoff
  subst hv'
  have hc4 : w4.cell? ⟨g, k * 2 + 1, none⟩ = some (lv k) := by
    have := (h1.at HO.out.2.1).2.1
    exact (World.cell?_of_block (w := w1) (a := ⟨g, k * 2 + 1, none⟩) g4).trans this
  have hf4 : w4.frozen? ⟨g, k * 2 + 1, none⟩ = false := (h1.row.kept g4).frozen _
  clear hS
  refine next_till 15 (by kernel_rfl) rfl (fun K hK => ?_)
  go_simp
  refine hK.out _ _ (fun _ => ⟨⟨hb3.block r (hlt _ fr), hb3.block g (hlt _ h1.fg)⟩, HB.out.below hb3⟩) ?_
  clear hK K
  refine next_till 16 (by kernel_rfl) rfl (fun K hK => ?_)
  rw [if_pos (by rfl)]
  rw [← HN.out.2] at hrun4
  refine wp_append_run (.tmp 35) (.tmp 38) 59 rfl rfl rfl hrun4 ?_
  refine hK.out _ _ (fun _ => ⟨⟨r4, g4⟩, HB.out.only h04 hoff1⟩) ?_
  simp only [Act.put, List.setIfInBounds_toArray]
  clear hK K
  refine next_till 17 (by kernel_rfl) rfl (fun K hK => ?_)
  go_simp
  refine hK.out _ _ (fun _ => ⟨⟨r4, g4⟩, HB.out.only h04 hoff1⟩) ?_
  clear hK K
  refine next_till 18 (by kernel_rfl) rfl (fun K hK => ?_)
  go_simp
  refine hK.out _ _ (fun _ => ⟨⟨r4, g4⟩, HB.out.only h04 hoff1⟩) ?_
  clear hK K
  refine next_till 19 (by kernel_rfl) rfl (fun K hK => ?_)
  go_simp
  refine hK.out _ _ (fun e => absurd rfl e) ?_
  clear hK K
  refine done_till (by kernel_rfl) ?_ _
  go_wp2
  go_ret
  have hz := o1.size
  have hz5 := honly.size
  refine ⟨rfl, href.widen (fun q hq => hq.imp id fun hq => ⟨by omega, hq.2⟩) (fun q hq => ?_), (o1.mono (fun q _ e => e ▸ fr)).trans honly⟩
  rcases hq with hq | hq
  · have := h1.fl q hq
    omega
  · exact hq.2
end
end Go.Proofs.Ytcgecjedgbmmkaa
