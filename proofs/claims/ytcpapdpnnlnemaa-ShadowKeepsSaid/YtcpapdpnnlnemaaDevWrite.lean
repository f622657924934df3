/- Write of a device: what it answers, and what is loose behind it; conditions: a device lies in memory, or the pointer is nil; fewer than 2^32 things are loose in the block; the bytes that are written lie elsewhere. -/
import Derived.Test.YtcpapdpnnlnemaaDevWrote
import Derived.Test.YtcpapdpnnlnemaaHeldLast
namespace Go.Proofs.Ytcpapdpnnlnemaa
open Go.RowKit Go.Maps

/-- What the region of a Write reads stays. -/
def Keeps2 (b mb : Nat) (w1 w : World) : Prop := w.heap[b]? = w1.heap[b]? ∧ w.heap[mb]? = w1.heap[mb]?

section
variable {w : World} {b : Nat} {D : Dv} {F : Nat → Prop}

theorem write_nil (k : Int) (v : Value) (w : World) : Calls Try.prog 19 #[.pointer none, .int .i64 k, v] w fun e w' => e = .returned (err 2) ∧ w = w' := by
  go_enter Try.func19, Try.ntmps19
  go_wp2_with fail
  refine (ready_nil _).mono ?_
  rintro e w1 ⟨rfl, rfl⟩
  go_wp2
  go_ret
  exact ⟨rfl, rfl⟩

theorem write_off (h : Dev w b D F) (ho : D.on = false) (k : Int) (v : Value) : Calls Try.prog 19 #[ptr b, .int .i64 k, v] w fun e w' => e = .returned (err 8) ∧ w = w' := by
  go_enter Try.func19, Try.ntmps19
  go_wp2_with fail
  refine (ready_off h ho).mono ?_
  rintro e w1 ⟨rfl, rfl⟩
  go_wp2
  go_ret
  exact ⟨rfl, rfl⟩

theorem write_no (h : Dev w b D F) (ho : D.on = true) (k : Int) (hk : k < 0 ∨ (D.bk.length : Int) ≤ k) (v : Value) : Calls Try.prog 19 #[ptr b, .int .i64 k, v] w fun e w' => e = .returned (err 1) ∧ w = w' := by
  have HO := Lib.hid ho
  clear ho
  go_enter Try.func19, Try.ntmps19
  go_wp2_with fail
  refine (ready_on h HO.out).mono ?_
  rintro e w1 ⟨rfl, rfl⟩
  go_wp2_with fail
  refine (has_no h k hk).mono ?_
  rintro e w1 ⟨rfl, rfl⟩
  go_wp2
  go_ret
  exact ⟨rfl, rfl⟩

theorem write_short (h : Dev w b D F) (ho : D.on = true) (k : Nat) (hk : k < D.bk.length) {v : Value} {l : Bytes} (hv : Bs w v l) (hl : l.length ≠ 512) : Calls Try.prog 19 #[ptr b, .int .i64 (k : Int), v] w fun e w' => e = .returned (err 1) ∧ w = w' := by
  obtain ⟨a, c, rfl, _⟩ := hv.shape
  have hq : (((l.length : Int)) != 512) = true := by rw [bne_iff_ne]; omega
  have HO := Lib.hid ho
  clear ho hl hv
  go_enter Try.func19, Try.ntmps19
  go_wp2_with fail
  refine (ready_on h HO.out).mono ?_
  rintro e w1 ⟨rfl, rfl⟩
  go_wp2_with fail
  refine (has_yes h k hk).mono ?_
  rintro e w1 ⟨rfl, rfl⟩
  go_wp2
  go_ret
  exact ⟨rfl, rfl⟩

theorem write_dies (h : Dev w b D F) (ho : D.on = true) (hz : D.left = 0) (k : Nat) (hk : k < D.bk.length) {v : Value} {l : Bytes} (hv : Bs w v l) (hl : l.length = 512) :
    Calls Try.prog 19 #[ptr b, .int .i64 (k : Int), v] w fun e w' => e = .returned (err 8) ∧ Dev w' b ⟨D.bk, false, D.left⟩ F ∧ Only (· = b) w w' := by
  obtain ⟨a, c, rfl, _⟩ := hv.shape
  rw [hl]
  have HO := Lib.hid (And.intro ho hz)
  clear ho hl hv hz
  go_enter Try.func19, Try.ntmps19
  go_wp2_with fail
  refine (ready_on h HO.out.1).mono ?_
  rintro e w1 ⟨rfl, rfl⟩
  go_wp2_with fail
  refine (has_yes h k hk).mono ?_
  rintro e w1 ⟨rfl, rfl⟩
  go_wp2_with fail
  refine (spend_dies h HO.out.2).mono ?_
  rintro e w1 ⟨rfl, hh⟩
  go_wp2
  go_ret
  exact ⟨rfl, hh.dev h rfl⟩

set_option maxRecDepth 100000 in
set_option maxHeartbeats 1000000 in
theorem write_ok (h : Dev w b D F) (ho : D.on = true) (hz : D.left ≠ 0) {k : Nat} {x : Bk} (hx : D.bk[k]? = some x) (hs : x.loose.length < 4294967296) {v : Value} {l : Bytes} (hv : Bs w v l) (hl : l.length = 512)
    (hoff : ∀ q, v.ownBlock = some q → ¬ F q) :
    Calls Try.prog 19 #[ptr b, .int .i64 (k : Int), v] w fun e w' => e = .returned (err 0) ∧ Dev w' b ⟨wrote D.bk k l, D.on, spent D.left⟩ (Grow F w w') ∧ Only F w w' := by
  have hk := (List.getElem?_eq_some_iff.1 hx).1
  obtain ⟨a, c, rfl, hb⟩ := hv.shape
  have hlen : (Value.slice a l.length c) = .slice a 512 c := by rw [hl]
  rw [hlen] at hb hoff ⊢
  have HO := Lib.hid (And.intro ho (And.intro hz (And.intro hx hl)))
  clear ho hl hv hz hx hlen
  have h0 := h
  obtain ⟨sb, mb, sv, lv, Dm, h⟩ := h
  go_enter Try.func19, Try.ntmps19
  go_wp2_with fail
  refine (ready_on h0 HO.out.1).mono ?_
  rintro e w1 ⟨rfl, rfl⟩
  go_wp2_with fail
  refine (has_yes h0 k hk).mono ?_
  rintro e w1 ⟨rfl, rfl⟩
  go_wp2_with fail
  refine (spend_goes h0 HO.out.2.1).mono ?_
  rintro e w1 ⟨rfl, hh⟩
  obtain ⟨h1, o1⟩ := hh sb mb sv lv Dm D rfl h
  clear hh
  go_wp2_with fail
  have hb1 : Bs w1 (.slice a 512 c) l := hb.only o1 (fun q hq e => hoff q hq (e ▸ h.fb))
  have HC := Lib.hid (fun (W : World) (hW : Keeps2 b mb w1 W) => (World.cell?_of_block (w := w1) (a := ⟨b, 1, none⟩) hW.1).trans h1.cells.2.1)
  have HK := Lib.hid (fun (W : World) (hW : Keeps2 b mb w1 W) => look_own (ownsMap_kept' h1.map hW.2) (k := k) (by have := h1.few; simp at this; omega) (h1.keys k x HO.out.2.2.1).2)
  refine region_till 15 (Keeps2 b mb w1) (by kernel_rfl) ⟨rfl, rfl⟩ (fun hS => ?_)
  refine take_till (i := 0) (some 28) (ptr b) rfl rfl (by kernel_rfl) (by kernel_rfl) (by kernel_rfl) (by kernel_rfl) (by decide) (fun _ _ _ h => h) (by rfl) (fun W hW => ?_) hS ?_
  · have hc := HC.out W hW
    have hk := HK.out W hW
    clear hW
    go_simp
  simp only [Act.put, List.setIfInBounds_toArray, List.set_cons_zero, List.set_cons_succ]
  refine take_till (i := 1) (some 29) (ptr b) rfl rfl (by kernel_rfl) (by kernel_rfl) (by kernel_rfl) (by kernel_rfl) (by decide) (fun _ _ _ h => h) (by rfl) (fun W hW => ?_) hS ?_
  · have hc := HC.out W hW
    have hk := HK.out W hW
    clear hW
    go_simp
  simp only [Act.put, List.setIfInBounds_toArray, List.set_cons_zero, List.set_cons_succ]
  refine take_till (i := 2) (some 30) (.pointer (some ⟨b, 1, none⟩)) rfl rfl (by kernel_rfl) (by kernel_rfl) (by kernel_rfl) (by kernel_rfl) (by decide) (fun _ _ _ h => h) (by rfl) (fun W hW => ?_) hS ?_
  · have hc := HC.out W hW
    have hk := HK.out W hW
    clear hW
    go_simp
  simp only [Act.put, List.setIfInBounds_toArray, List.set_cons_zero, List.set_cons_succ]
  refine take_till (i := 3) (some 31) (.map (some mb)) rfl rfl (by kernel_rfl) (by kernel_rfl) (by kernel_rfl) (by kernel_rfl) (by decide) (fun _ _ _ h => h) (by rfl) (fun W hW => ?_) hS ?_
  · have hc := HC.out W hW
    have hk := HK.out W hW
    clear hW
    go_simp
  simp only [Act.put, List.setIfInBounds_toArray, List.set_cons_zero, List.set_cons_succ]
  refine take_till (i := 4) (some 32) (.int .i64 (k : Int)) rfl rfl (by kernel_rfl) (by kernel_rfl) (by kernel_rfl) (by kernel_rfl) (by decide) (fun _ _ _ h => h) (by rfl) (fun W hW => ?_) hS ?_
  · have hc := HC.out W hW
    have hk := HK.out W hW
    clear hW
    go_simp
  simp only [Act.put, List.setIfInBounds_toArray, List.set_cons_zero, List.set_cons_succ]
  refine take_till (i := 5) (some 33) (ptr b) rfl rfl (by kernel_rfl) (by kernel_rfl) (by kernel_rfl) (by kernel_rfl) (by decide) (fun _ _ _ h => h) (by rfl) (fun W hW => ?_) hS ?_
  · have hc := HC.out W hW
    have hk := HK.out W hW
    clear hW
    go_simp
  simp only [Act.put, List.setIfInBounds_toArray, List.set_cons_zero, List.set_cons_succ]
  refine take_till (i := 6) (some 34) (ptr b) rfl rfl (by kernel_rfl) (by kernel_rfl) (by kernel_rfl) (by kernel_rfl) (by decide) (fun _ _ _ h => h) (by rfl) (fun W hW => ?_) hS ?_
  · have hc := HC.out W hW
    have hk := HK.out W hW
    clear hW
    go_simp
  simp only [Act.put, List.setIfInBounds_toArray, List.set_cons_zero, List.set_cons_succ]
  refine take_till (i := 7) (some 35) (.pointer (some ⟨b, 1, none⟩)) rfl rfl (by kernel_rfl) (by kernel_rfl) (by kernel_rfl) (by kernel_rfl) (by decide) (fun _ _ _ h => h) (by rfl) (fun W hW => ?_) hS ?_
  · have hc := HC.out W hW
    have hk := HK.out W hW
    clear hW
    go_simp
  simp only [Act.put, List.setIfInBounds_toArray, List.set_cons_zero, List.set_cons_succ]
  refine take_till (i := 8) (some 36) (.map (some mb)) rfl rfl (by kernel_rfl) (by kernel_rfl) (by kernel_rfl) (by kernel_rfl) (by decide) (fun _ _ _ h => h) (by rfl) (fun W hW => ?_) hS ?_
  · have hc := HC.out W hW
    have hk := HK.out W hW
    clear hW
    go_simp
  simp only [Act.put, List.setIfInBounds_toArray, List.set_cons_zero, List.set_cons_succ]
  refine take_till (i := 9) (some 37) (.int .i64 (k : Int)) rfl rfl (by kernel_rfl) (by kernel_rfl) (by kernel_rfl) (by kernel_rfl) (by decide) (fun _ _ _ h => h) (by rfl) (fun W hW => ?_) hS ?_
  · have hc := HC.out W hW
    have hk := HK.out W hW
    clear hW
    go_simp
  simp only [Act.put, List.setIfInBounds_toArray, List.set_cons_zero, List.set_cons_succ]
  refine take_till (i := 10) (some 38) (lv k) rfl rfl (by kernel_rfl) (by kernel_rfl) (by kernel_rfl) (by kernel_rfl) (by decide) (fun _ _ _ h => h) (by rfl) (fun W hW => ?_) hS ?_
  · have hc := HC.out W hW
    have hk := HK.out W hW
    clear hW
    go_simp
  simp only [Act.put, List.setIfInBounds_toArray, List.set_cons_zero, List.set_cons_succ]
  refine take_till (i := 11) (some 39) (.slice a 512 c) rfl rfl (by kernel_rfl) (by kernel_rfl) (by kernel_rfl) (by kernel_rfl) (by decide) (fun _ _ _ h => h) (by rfl) (fun W hW => ?_) hS ?_
  · have hc := HC.out W hW
    have hk := HK.out W hW
    clear hW
    go_simp
  simp only [Act.put, List.setIfInBounds_toArray, List.set_cons_zero, List.set_cons_succ]
  refine next_till 12 (by kernel_rfl) rfl (fun K hK => ?_)
  go_simp
  refine (newBlock_any _ (hb1.drewN 1) (by have := HO.out.2.2.2; omega)).mono ?_
  rintro e w2 ⟨g, rfl, hc, hg, hbl⟩
  have hb2 : Below w1.heap.size w1 w2 := ⟨hbl.os, hbl.tape, hbl.output, hbl.size, hbl.block⟩
  rw [padded_full HO.out.2.2.2] at hc
  clear hS hbl
  have hk2 : ∀ W, Below w1.heap.size w1 W → Keeps2 b mb w1 W := fun W hW => ⟨hW.block b (h1.fl _ h1.fb), hW.block mb (h1.fl _ h1.fm)⟩
  refine hK.out _ _ (fun _ => hk2 w2 hb2) ?_
  clear hK K
  obtain ⟨v', w4, w5, hrun4, hrun5, hdev, honly, hk4⟩ := h1.puts (x := x) HO.out.2.2.1 hs hc HO.out.2.2.2 hg hb2
  have hb3 : Below w1.heap.size w1 (w2.alloc (.cells #[.slice (some ⟨g, 0, none⟩) 512 512] 33)) := hb2.alloc hb2.size _
  refine next_till 13 (by kernel_rfl) rfl (fun K hK => ?_)
  go_simp
  refine hK.out _ _ (fun _ => hk2 _ hb3) ?_
  clear hK K
  refine next_till 14 (by kernel_rfl) rfl (fun K hK => ?_)
  rw [if_pos (by rfl)]
  refine wp_append_run (.tmp 38) (.tmp 41) 57 rfl rfl rfl hrun4 ?_
  refine hK.out _ _ (fun _ => hk4) ?_
  simp only [Act.put, List.setIfInBounds_toArray]
  clear hK K
  refine next_till 15 (by kernel_rfl) rfl (fun K hK => ?_)
  go_simp
  refine hK.out _ _ (fun e => absurd rfl e) ?_
  clear hK K
  refine done_till (by kernel_rfl) ?_ _
  go_wp2
  go_ret
  have hz := o1.size
  have hz5 := honly.size
  refine ⟨rfl, hdev.widen (fun q hq => hq.imp id fun hq => ⟨by omega, hq.2⟩) (fun q hq => ?_), (o1.mono (fun q _ e => e ▸ h.fb)).trans honly⟩
  rcases hq with hq | hq
  · have := h1.fl q hq
    omega
  · exact hq.2
end
end Go.Proofs.Ytcpapdpnnlnemaa
