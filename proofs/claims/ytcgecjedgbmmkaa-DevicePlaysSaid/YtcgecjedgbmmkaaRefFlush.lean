/- Flush of the document's device; condition: it lies in memory. -/
import Derived.Test.YtcgecjedgbmmkaaRefNew
import Derived.Test.YtcgecjedgbmmkaaRefWrite
namespace Go.Proofs.Ytcgecjedgbmmkaa
open Go.RowKit Go.Maps

/-- The first k of the new blocks, and the old ones behind them. -/
def mixed (new old : List Bk) (k : Nat) : List Bk := new.take k ++ old.drop k
theorem mixed_zero (new old : List Bk) : mixed new old 0 = old := by simp [mixed]
theorem mixed_all {new old : List Bk} (h : new.length = old.length) : mixed new old old.length = new := by simp [mixed, ← h]
theorem mixed_length {new old : List Bk} (h : new.length = old.length) (k : Nat) : (mixed new old k).length = old.length := by simp [mixed, h]; omega
theorem mixed_at {new old : List Bk} (h : new.length = old.length) {k : Nat} (hk : k < old.length) : (mixed new old k)[k]? = old[k]? := by
  unfold mixed
  rw [List.getElem?_append_right (by simp; omega)]
  have : (new.take k).length = k := by simp; omega
  rw [this, List.getElem?_drop]
  simp
theorem mixed_set {new old : List Bk} (h : new.length = old.length) {k : Nat} {x : Bk} (hk : new[k]? = some x) : (mixed new old k).set k x = mixed new old (k + 1) := by
  have hlt := (List.getElem?_eq_some_iff.1 hk).1
  unfold mixed
  have hl : (new.take k).length = k := by simp; omega
  rw [List.set_append_right _ _ (by omega), hl, Nat.sub_self, List.take_add_one, hk]
  rw [List.drop_eq_getElem_cons (by omega : k < old.length)]
  simp only [List.set_cons_zero, Option.toList_some, List.append_assoc, List.singleton_append]

/-- One block is settled. -/
theorem RefAt.one {w : World} {r g cap : Nat} {cur : List Value} {lv : Nat → Value} {D : Dv} {F : Nat → Prop} (h : RefAt w r g cap cur lv D F) {k : Nat} {x : Bk} (hx : D.bk[k]? = some x) (s : Bytes) :
    RefAt ((w.setCell ⟨g, k * 2, none⟩ (str s)).setCell ⟨g, k * 2 + 1, none⟩ nilSl) r g cap ((cur.set (k * 2) (str s)).set (k * 2 + 1) nilSl) (fun j => if j = k then nilSl else lv j) ⟨D.bk.set k ⟨s, []⟩, D.on, D.left⟩ F ∧
    Only F w ((w.setCell ⟨g, k * 2, none⟩ (str s)).setCell ⟨g, k * 2 + 1, none⟩ nilSl) := by
  have hk := (List.getElem?_eq_some_iff.1 hx).1
  have ho : Only F w ((w.setCell ⟨g, k * 2, none⟩ (str s)).setCell ⟨g, k * 2 + 1, none⟩ nilSl) := ((Only.refl F w).setCell (p := ⟨g, k * 2, none⟩) (.inl h.fg) _).setCell (p := ⟨g, k * 2 + 1, none⟩) (.inl h.fg) _
  have hrow := (h.row.set (k * 2) (str s)).set (k * 2 + 1) nilSl
  have hk' : ∀ q, q ≠ g → ((w.setCell ⟨g, k * 2, none⟩ (str s)).setCell ⟨g, k * 2 + 1, none⟩ nilSl).heap[q]? = w.heap[q]? := fun q hq =>
    (Below.heap_setCell _ _ _ _ (fun e => hq e)).trans (Below.heap_setCell _ _ _ _ (fun e => hq e))
  have hc := h.cells k x hx
  have l1 := (List.getElem?_eq_some_iff.1 hc.1).1
  have l2 := (List.getElem?_eq_some_iff.1 hc.2).1
  refine ⟨?_, ho⟩
  generalize (w.setCell ⟨g, k * 2, none⟩ (str s)).setCell ⟨g, k * 2 + 1, none⟩ nilSl = w5 at *
  exact {
    head := by
      show Cel w5 r [.slice (some ⟨g, 0, none⟩) (D.bk.set k _).length cap, _, _] _
      rw [List.length_set]
      exact h.head.kept (hk' r (h.g_not h.head (by decide)))
    row := hrow
    cells := fun j y hy => by
      by_cases hj : j = k
      · subst hj
        rw [List.getElem?_set_self hk, Option.some.injEq] at hy
        subst hy
        rw [if_pos rfl, List.getElem?_set_ne (by omega), List.getElem?_set_self (by omega), List.getElem?_set_self (by rw [List.length_set]; omega)]
        exact ⟨rfl, rfl⟩
      · rw [List.getElem?_set_ne (by omega)] at hy
        rw [if_neg hj, List.getElem?_set_ne (by omega), List.getElem?_set_ne (by omega), List.getElem?_set_ne (by omega), List.getElem?_set_ne (by omega)]
        exact h.cells j y hy
    loose := fun j y hy => by
      by_cases hj : j = k
      · subst hj
        rw [List.getElem?_set_self hk, Option.some.injEq] at hy
        subst hy
        rw [if_pos rfl]
        exact RowS.nil _ _
      · rw [List.getElem?_set_ne (by omega)] at hy
        rw [if_neg hj]
        have hr := h.loose j y hy
        exact hr.kept (fun q hq => by
          obtain ⟨cs, hcs⟩ := hr.typed q hq
          exact hk' q (h.g_not hcs (by decide))) fun _ h => h
    apart := fun i j hi hj hne => by
      rw [List.length_set] at hi hj
      by_cases hik : i = k
      · rw [if_pos hik]; exact .inl rfl
      · by_cases hjk : j = k
        · rw [if_neg hik, if_pos hjk]
          rcases hq : (lv i).ownBlock with _ | q
          · exact .inl rfl
          · exact .inr (fun e => by cases e)
        · rw [if_neg hik, if_neg hjk]
          exact h.apart i j hi hj hne
    room := by rw [List.length_set]; exact h.room
    fr := h.fr
    fg := h.fg
    fl := fun q hq => Nat.lt_of_lt_of_le (h.fl q hq) ho.size
    pos := by rw [List.length_set]; exact h.pos
    few := by rw [List.length_set]; exact h.few
    low := h.low
    high := h.high }

section
variable {w : World} {r : Nat} {D : Dv} {F : Nat → Prop}

theorem rflush_off (h : Ref w r D F) (ho : D.on = false) : Calls Try.prog 24 #[ptr r] w fun e w' => e = .returned (err 8) ∧ w = w' := by
  obtain ⟨g, cap, cur, lv, h⟩ := h
  obtain ⟨_, c1, c2, _, f1, f2⟩ := h.top
  rw [ho] at c2
  clear h ho
  go_enter Try.func24, Try.ntmps24
  go_wp2
  go_ret
  exact ⟨rfl, rfl⟩

theorem rflush_dies (h : Ref w r D F) (ho : D.on = true) (hz : D.left = 0) : Calls Try.prog 24 #[ptr r] w fun e w' => e = .returned (err 8) ∧ Ref w' r ⟨D.bk, false, D.left⟩ F ∧ Only (· = r) w w' := by
  have h0 := h
  obtain ⟨g, cap, cur, lv, h⟩ := h
  obtain ⟨_, c1, c2, _, f1, f2⟩ := h.top
  rw [ho] at c2
  have HO := Lib.hid hz
  clear h ho hz
  go_enter Try.func24, Try.ntmps24
  go_wp2_with fail
  refine (goes_dies h0 HO.out).mono ?_
  rintro e w1 ⟨rfl, hh⟩
  go_wp2
  go_ret
  exact ⟨rfl, hh⟩

theorem flushed_length (l : List Bk) : (flushed l).length = l.length := by simp [flushed]
theorem flushed_at {l : List Bk} {k : Nat} {x : Bk} (h : l[k]? = some x) : (flushed l)[k]? = some ⟨x.stands, []⟩ := by simp [flushed, h]

set_option maxRecDepth 100000 in
set_option maxHeartbeats 1000000 in
theorem rflush_ok (h : Ref w r D F) (ho : D.on = true) (hz : D.left ≠ 0) : Calls Try.prog 24 #[ptr r] w fun e w' => e = .returned (err 0) ∧ Ref w' r ⟨flushed D.bk, D.on, spent D.left⟩ F ∧ Only F w w' := by
  have h0 := h
  have fr := h.fr
  obtain ⟨g, cap, cur, lv, h⟩ := h
  have c2 := h.top.2.2.1
  rw [ho] at c2
  have HO := Lib.hid (And.intro hz ho)
  clear h ho hz
  go_enter Try.func24, Try.ntmps24
  go_wp2_with fail
  refine (goes_on h0 HO.out.1).mono ?_
  rintro e w1 ⟨rfl, h1, o1⟩
  clear c2
  obtain ⟨g, cap, cur, lv, h1⟩ := h1
  have o1' : Only F w w1 := o1.mono (fun q _ e => e ▸ fr)
  have hm : RefAt w1 r g cap cur lv ⟨mixed (flushed D.bk) D.bk 0, D.on, spent D.left⟩ F := by rw [mixed_zero]; exact h1
  have hfew : D.bk.length ≤ 4096 := h1.few
  have hroom : D.bk.length ≤ cap := h1.room
  have H1 := Lib.hid (And.intro hm o1')
  clear h1 hm o1'
  go_wp2
  go_loopw [3] (fun i wr => ∃ k : Nat, k ≤ D.bk.length ∧ i = .int .i64 k ∧ (∃ cur lv, RefAt wr r g cap cur lv ⟨mixed (flushed D.bk) D.bk k, D.on, spent D.left⟩ F) ∧ Only F w wr) (fun i _ => D.bk.length - (intOf i).toNat)
  case atStart => exact ⟨0, Nat.zero_le _, rfl, ⟨cur, lv, H1.out.1⟩, H1.out.2⟩
  case round =>
    obtain ⟨k, hk, rfl, ⟨cur, lv, hr⟩, hor⟩ := hrel
    have t0 : wr.cell? ⟨r, 0, none⟩ = some (.slice (some ⟨g, 0, none⟩) D.bk.length cap) := by
      have := hr.top.1
      rw [mixed_length (flushed_length _)] at this
      exact this
    by_cases hlt : k < D.bk.length
    · obtain ⟨x, hx⟩ : ∃ x, D.bk[k]? = some x := ⟨_, List.getElem?_eq_getElem hlt⟩
      have hx' : (mixed (flushed D.bk) D.bk k)[k]? = some x := by rw [mixed_at (flushed_length _) hlt, hx]
      obtain ⟨a0, a1, -⟩ := hr.at hx'
      have hloose := hr.loose k x hx'
      have hkn : ((k : Int) < (D.bk.length : Int)) := by omega
      have hset : ∀ W, Below wr.heap.size wr W → RefAt W r g cap cur lv ⟨mixed (flushed D.bk) D.bk k, D.on, spent D.left⟩ F ∧ Only F w W := fun W hW => ⟨hr.kept (fun q hq => hW.block q (hr.fl q hq)) hW.size, hor.trans (Only.of_below hW F)⟩
      have hmx := mixed_set (flushed_length D.bk) (flushed_at hx)
      have H := Lib.hid (And.intro hset (And.intro hx' hmx))
      have fr' := hr.fr
      have fg' := hr.fg
      have hlt' := fun q hq => hr.fl q hq
      have hrow := hr.row
      clear hset hmx hx hx'
      obtain ⟨V, hV⟩ : ∃ V, V = lv k := ⟨_, rfl⟩
      rw [← hV] at a1 hloose
      have HV := Lib.hid hV
      clear hV
      obtain ⟨n, hn⟩ : ∃ n, n = D.bk.length := ⟨_, rfl⟩
      rw [← hn] at hk t0 hfew hroom hlt hkn
      have HN := Lib.hid hn
      clear hr hor
      obtain ⟨S0, hS0⟩ : ∃ S0, S0 = str x.sure := ⟨_, rfl⟩
      rw [← hS0] at a0
      have HC := Lib.hid (fun (W : World) (hW : KeepsR r g wr W) =>
        And.intro ((World.cell?_of_block (w := wr) (a := ⟨r, 0, none⟩) hW.1).trans t0) (And.intro ((World.cell?_of_block (w := wr) (a := ⟨g, k * 2, none⟩) hW.2).trans a0) (And.intro ((World.cell?_of_block (w := wr) (a := ⟨g, k * 2 + 1, none⟩) hW.2).trans a1) hlt)))
      have HS0 := Lib.hid hS0
      clear hS0
      rw [hn] at t0 hkn
      clear hn
      have hst : Bk.stands ⟨x.sure, x.loose⟩ = x.stands := rfl
      go_wp2_with fail
      rw [← HN.out]
      refine region_till 15 (KeepsR r g wr) (by kernel_rfl) ⟨rfl, rfl⟩ (fun hS => ?_)
      refine take_till (i := 0) (some 22) (ptr r) rfl rfl (by kernel_rfl) (by kernel_rfl) (by kernel_rfl) (by kernel_rfl) (by decide) (fun _ _ _ h => h) (by rfl) (fun W hW => ?_) hS ?_
      · have hc := HC.out W hW
        obtain ⟨hc1, hc2, hc3, hc4⟩ := hc
        clear hW
        go_simp
      simp only [Act.put, List.setIfInBounds_toArray, List.set_cons_zero, List.set_cons_succ]
      refine take_till (i := 1) (some 23) (ptr r) rfl rfl (by kernel_rfl) (by kernel_rfl) (by kernel_rfl) (by kernel_rfl) (by decide) (fun _ _ _ h => h) (by rfl) (fun W hW => ?_) hS ?_
      · have hc := HC.out W hW
        obtain ⟨hc1, hc2, hc3, hc4⟩ := hc
        clear hW
        go_simp
      simp only [Act.put, List.setIfInBounds_toArray, List.set_cons_zero, List.set_cons_succ]
      refine take_till (i := 2) (some 24) (ptr r) rfl rfl (by kernel_rfl) (by kernel_rfl) (by kernel_rfl) (by kernel_rfl) (by decide) (fun _ _ _ h => h) (by rfl) (fun W hW => ?_) hS ?_
      · have hc := HC.out W hW
        obtain ⟨hc1, hc2, hc3, hc4⟩ := hc
        clear hW
        go_simp
      simp only [Act.put, List.setIfInBounds_toArray, List.set_cons_zero, List.set_cons_succ]
      refine take_till (i := 3) (some 25) (.slice (some ⟨g, 0, none⟩) n cap) rfl rfl (by kernel_rfl) (by kernel_rfl) (by kernel_rfl) (by kernel_rfl) (by decide) (fun _ _ _ h => h) (by rfl) (fun W hW => ?_) hS ?_
      · have hc := HC.out W hW
        obtain ⟨hc1, hc2, hc3, hc4⟩ := hc
        clear hW
        go_simp
      simp only [Act.put, List.setIfInBounds_toArray, List.set_cons_zero, List.set_cons_succ]
      refine take_till (i := 4) (some 26) (.int .i64 (k : Int)) rfl rfl (by kernel_rfl) (by kernel_rfl) (by kernel_rfl) (by kernel_rfl) (by decide) (fun _ _ _ h => h) (by rfl) (fun W hW => ?_) hS ?_
      · have hc := HC.out W hW
        obtain ⟨hc1, hc2, hc3, hc4⟩ := hc
        clear hW
        go_simp
      simp only [Act.put, List.setIfInBounds_toArray, List.set_cons_zero, List.set_cons_succ]
      refine take_till (i := 5) (some 27) (ptr r) rfl rfl (by kernel_rfl) (by kernel_rfl) (by kernel_rfl) (by kernel_rfl) (by decide) (fun _ _ _ h => h) (by rfl) (fun W hW => ?_) hS ?_
      · have hc := HC.out W hW
        obtain ⟨hc1, hc2, hc3, hc4⟩ := hc
        clear hW
        go_simp
      simp only [Act.put, List.setIfInBounds_toArray, List.set_cons_zero, List.set_cons_succ]
      refine take_till (i := 6) (some 28) (ptr r) rfl rfl (by kernel_rfl) (by kernel_rfl) (by kernel_rfl) (by kernel_rfl) (by decide) (fun _ _ _ h => h) (by rfl) (fun W hW => ?_) hS ?_
      · have hc := HC.out W hW
        obtain ⟨hc1, hc2, hc3, hc4⟩ := hc
        clear hW
        go_simp
      simp only [Act.put, List.setIfInBounds_toArray, List.set_cons_zero, List.set_cons_succ]
      refine take_till (i := 7) (some 29) (ptr r) rfl rfl (by kernel_rfl) (by kernel_rfl) (by kernel_rfl) (by kernel_rfl) (by decide) (fun _ _ _ h => h) (by rfl) (fun W hW => ?_) hS ?_
      · have hc := HC.out W hW
        obtain ⟨hc1, hc2, hc3, hc4⟩ := hc
        clear hW
        go_simp
      simp only [Act.put, List.setIfInBounds_toArray, List.set_cons_zero, List.set_cons_succ]
      refine take_till (i := 8) (some 30) (.slice (some ⟨g, 0, none⟩) n cap) rfl rfl (by kernel_rfl) (by kernel_rfl) (by kernel_rfl) (by kernel_rfl) (by decide) (fun _ _ _ h => h) (by rfl) (fun W hW => ?_) hS ?_
      · have hc := HC.out W hW
        obtain ⟨hc1, hc2, hc3, hc4⟩ := hc
        clear hW
        go_simp
      simp only [Act.put, List.setIfInBounds_toArray, List.set_cons_zero, List.set_cons_succ]
      refine take_till (i := 9) (some 31) (.int .i64 (k : Int)) rfl rfl (by kernel_rfl) (by kernel_rfl) (by kernel_rfl) (by kernel_rfl) (by decide) (fun _ _ _ h => h) (by rfl) (fun W hW => ?_) hS ?_
      · have hc := HC.out W hW
        obtain ⟨hc1, hc2, hc3, hc4⟩ := hc
        clear hW
        go_simp
      simp only [Act.put, List.setIfInBounds_toArray, List.set_cons_zero, List.set_cons_succ]
      refine take_till (i := 10) (some 32) (.pointer (some ⟨g, k * 2, none⟩)) rfl rfl (by kernel_rfl) (by kernel_rfl) (by kernel_rfl) (by kernel_rfl) (by decide) (fun _ _ _ h => h) (by rfl) (fun W hW => ?_) hS ?_
      · have hc := HC.out W hW
        obtain ⟨hc1, hc2, hc3, hc4⟩ := hc
        clear hW
        go_simp
      simp only [Act.put, List.setIfInBounds_toArray, List.set_cons_zero, List.set_cons_succ]
      refine take_till (i := 11) (some 33) (.agg #[S0, V]) rfl rfl (by kernel_rfl) (by kernel_rfl) (by kernel_rfl) (by kernel_rfl) (by decide) (fun _ _ _ h => h) (by rfl) (fun W hW => ?_) hS ?_
      · have hc := HC.out W hW
        obtain ⟨hc1, hc2, hc3, hc4⟩ := hc
        clear hW
        go_simp
      simp only [Act.put, List.setIfInBounds_toArray, List.set_cons_zero, List.set_cons_succ]
      clear hS
      refine next_till 12 (by kernel_rfl) rfl (fun K hK => ?_)
      go_simp
      rw [HS0.out]
      refine (rstands_any (hloose.kept (w' := wr.drew) (fun _ _ => rfl) (fun _ h => h))).mono ?_
      rintro e w2 ⟨rfl, hb2⟩
      have hb3 : Below wr.heap.size wr w2 := ⟨hb2.os, hb2.tape, hb2.output, hb2.size, hb2.block⟩
      have hk3 : KeepsR r g wr w2 := ⟨hb3.block r (hlt' _ fr'), hb3.block g (hlt' _ fg')⟩
      refine hK.out _ _ (fun _ => hk3) ?_
      clear hK K
      have r3 := hrow.kept hk3.2
      have x1 : w2.cell? ⟨g, k * 2, none⟩ = some S0 := (HC.out w2 hk3).2.1
      have x2 : w2.cell? ⟨g, k * 2 + 1, none⟩ = some V := (HC.out w2 hk3).2.2.1
      have x3 := r3.frozen (k * 2)
      have x4 := r3.frozen (k * 2 + 1)
      refine next_till 13 (by kernel_rfl) rfl (fun K hK => ?_)
      go_simp
      refine hK.out _ _ (fun _ => hk3) ?_
      clear hK K
      refine next_till 14 (by kernel_rfl) rfl (fun K hK => ?_)
      go_simp
      refine hK.out _ _ (fun _ => hk3) ?_
      clear hK K
      refine next_till 15 (by kernel_rfl) rfl (fun K hK => ?_)
      go_simp
      refine hK.out _ _ (fun e => absurd rfl e) ?_
      clear hK K
      refine done_till (by kernel_rfl) ?_ _
      go_wp2
      go_roundw
      case rel =>
        obtain ⟨hr, hor⟩ := H.out.1 w2 hb3
        have h1 := hr.one H.out.2.1 x.stands
        have e1 : (mixed (flushed D.bk) D.bk k).set k ⟨x.stands, []⟩ = mixed (flushed D.bk) D.bk (k + 1) := H.out.2.2
        simp only [e1] at h1
        exact ⟨k + 1, by have := HN.out; omega, by go_num, ⟨_, _, h1.1⟩, hor.trans h1.2⟩
      case measure => have := HN.out; simp [intOf]; omega
    · have hkn : decide ((k : Int) < (D.bk.length : Int)) = false := by simp; omega
      have e : k = D.bk.length := by omega
      have e1 : mixed (flushed D.bk) D.bk k = flushed D.bk := by rw [e]; exact mixed_all (flushed_length _)
      rw [e1] at hr
      have HR := Lib.hid (And.intro hr hor)
      clear hr hor e e1
      go_wp2
      go_ret
      exact ⟨rfl, ⟨_, _, _, _, HR.out.1⟩, HR.out.2⟩
end
end Go.Proofs.Ytcgecjedgbmmkaa
