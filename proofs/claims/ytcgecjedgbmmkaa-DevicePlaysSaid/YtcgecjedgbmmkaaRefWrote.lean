/- What a Write of the document's device turns: a string, appended to the row of its number's loose things, which is put back; condition: fewer than 2^32 things are loose there. -/
import Derived.Test.YtcgecjedgbmmkaaRefStands
import Derived.Test.YtcgecjedgbmmkaaDevWrote
namespace Go.Proofs.Ytcgecjedgbmmkaa
open Go.RowKit Go.Maps

theorem str_info : (Try.prog.info? 9).map (fun i => (i.zero, i.size, i.bytes)) = some (some (.string ⟨#[]⟩), 1, 16) := by kernel_rfl

theorem RefAt.puts {w w2 : World} {r g cap : Nat} {cur : List Value} {lv : Nat → Value} {D : Dv} {F : Nat → Prop} (h : RefAt w r g cap cur lv D F) {k : Nat} {x : Bk} (hx : D.bk[k]? = some x)
    (hs : x.loose.length < 4294967296) (c : Bytes) (hb : Below w.heap.size w w2) :
    ∃ v' w4, (Builtin.append_ #[59, 59] 59 #[lv k, .slice (some ⟨w2.heap.size, 0, none⟩) 1 1]).run Try.prog (w2.alloc (.cells #[str c] 9)) = .ok v' w4 ∧
      w4.heap[r]? = w.heap[r]? ∧ w4.heap[g]? = w.heap[g]? ∧ (∃ a n c, v' = .slice a n c) ∧
      Ref (w4.setCell ⟨g, k * 2 + 1, none⟩ v') r ⟨wrote D.bk k c, D.on, D.left⟩ (Grow F w (w4.setCell ⟨g, k * 2 + 1, none⟩ v')) ∧ Only F w (w4.setCell ⟨g, k * 2 + 1, none⟩ v') ∧ Only F w w4 := by
  have hk := (List.getElem?_eq_some_iff.1 hx).1
  have hfew := h.few
  obtain ⟨i0, hi, hz0, hz1, hz2⟩ := info_parts str_info
  obtain ⟨ho, hF⟩ := h.loose k x hx
  have o3 : Only F w (w2.alloc (.cells #[str c] 9)) := (Only.of_below hb F).alloc _
  have z3 : (w2.alloc (.cells #[str c] 9)).heap.size = w2.heap.size + 1 := by simp
  have keep3 : ∀ q, q < w.heap.size → (w2.alloc (.cells #[str c] 9)).heap[q]? = w.heap[q]? := fun q hq =>
    (Below.heap_alloc _ _ _ (Nat.lt_of_lt_of_le hq hb.size)).trans (hb.block q hq)
  have hnew := cell_one_new w2 (str c) 9
  generalize w2.alloc (.cells #[str c] 9) = w3 at *
  have ho3 : w3.ownsRow 0 9 1 (lv k) x.loose.length (x.loose.map str) := by
    refine ⟨ho.1, ho.2.imp id fun ⟨q, cap, cur, e1, e2, e3, r⟩ => ⟨q, cap, cur, e1, e2, ?_, r⟩⟩
    rw [keep3 q ((Array.getElem?_eq_some_iff.1 e3).1)]
    exact e3
  obtain ⟨v', w4, hrun, ho4, hg4, _, hloc⟩ := run_append_own_at (P := Try.prog) (w := w3) 0 59 59 9 i0 (.string ⟨#[]⟩) 1 16 Try.underlying59 hi hz0 hz1 hz2 rfl (by decide) (lv k) x.loose.length (x.loose.map str) ho3
    ⟨w2.heap.size, 0, none⟩ 1 1 [str c] rfl hnew (by simp [Value.oneCell']) (by unfold maxLen; omega) (by omega) (Nat.zero_le _)
  have lvF : ∀ q, (lv k).ownBlock = some q → F q ∧ q < w.heap.size := fun q e => ⟨hF q e, h.fl q (hF q e)⟩
  have lvT : ∀ q, (lv k).ownBlock = some q → ∃ cs, Cel w q cs 9 := (h.loose k x hx).typed
  have keep4 : ∀ q, q < w.heap.size → (lv k).ownBlock ≠ some q → w4.heap[q]? = w.heap[q]? := fun q hq hne =>
    (hg4.block q (by have := hb.size; omega) (fun e => hne e.symm)).trans (keep3 q hq)
  have o4 : Only F w w4 := o3.grown hg4 (fun q e => .inl (lvF q e).1)
  have r_ne : (lv k).ownBlock ≠ some r := fun e => by
    obtain ⟨cs, hc⟩ := lvT r e
    have := (hc.inj h.head).2
    cases this
  have g_ne : (lv k).ownBlock ≠ some g := fun e => by
    obtain ⟨cs, hc⟩ := lvT g e
    have := (hc.inj h.row).2
    cases this
  have r4 := keep4 r (h.fl _ h.fr) r_ne
  have g4 := keep4 g (h.fl _ h.fg) g_ne
  have hone : ∃ a n c, v' = .slice a n c := by
    rcases ho4.2 with ⟨rfl, _⟩ | ⟨q, cap', cur', rfl, _⟩ <;> exact ⟨_, _, _, rfl⟩
  have o5 : Only F w (w4.setCell ⟨g, k * 2 + 1, none⟩ v') := o4.setCell (p := ⟨g, k * 2 + 1, none⟩) (.inl h.fg) _
  have z5 : (w4.setCell ⟨g, k * 2 + 1, none⟩ v').heap.size = w4.heap.size := by simp [World.setCell]
  refine ⟨v', w4, hrun, r4, g4, hone, ⟨g, cap, cur.set (k * 2 + 1) v', fun j => if j = k then v' else lv j, ?_⟩, o5, o4⟩
  have row5 : Cel (w4.setCell ⟨g, k * 2 + 1, none⟩ v') g (cur.set (k * 2 + 1) v') 61 := (h.row.kept g4).set _ _
  have keep5 : ∀ q, q < w4.heap.size → q ≠ g → (w4.setCell ⟨g, k * 2 + 1, none⟩ v').heap[q]? = w4.heap[q]? := fun q hq hne => Below.heap_setCell _ _ _ _ (fun e => hne e)
  have v'loc : ∀ q, v'.ownBlock = some q → (lv k).ownBlock = some q ∨ (w.heap.size ≤ q ∧ q < w4.heap.size) := fun q e => by
    rcases hloc with h1 | h1
    · exact .inl (h1 ▸ e)
    · rw [h1] at e
      cases e
      exact .inr ⟨by have := hb.size; omega, (World.ownsRow.lt ho4 _ h1).2⟩
  have zb := hb.size
  have z4 := hg4.size
  have clen : k * 2 + 1 < cur.length := by
    have := (h.cells k x hx).2
    exact (List.getElem?_eq_some_iff.1 this).1
  generalize w4.setCell ⟨g, k * 2 + 1, none⟩ v' = w5 at *
  have grow : ∀ q, F q → Grow F w w5 q := fun q hq => .inl hq
  exact {
    head := by
      show Cel w5 r [.slice (some ⟨g, 0, none⟩) (wrote D.bk k c).length cap, _, _] _
      rw [wrote_length]
      refine h.head.kept ((keep5 r (by have := h.fl _ h.fr; omega) (fun e => ?_)).trans r4)
      exact absurd e (h.g_not h.head (by decide))
    row := row5
    cells := fun j y hy => by
      rw [wrote_get] at hy
      by_cases hj : j = k
      · subst hj
        rw [if_pos rfl, hx] at hy
        simp only [Option.map_some, Option.some.injEq] at hy
        subst hy
        rw [if_pos rfl, List.getElem?_set_ne (by omega), List.getElem?_set_self clen]
        exact ⟨(h.cells j x hx).1, rfl⟩
      · rw [if_neg hj] at hy
        rw [if_neg hj, List.getElem?_set_ne (by omega), List.getElem?_set_ne (by omega)]
        exact h.cells j y hy
    loose := fun j y hy => by
      rw [wrote_get] at hy
      by_cases hj : j = k
      · subst hj
        rw [if_pos rfl, hx] at hy
        simp only [Option.map_some, Option.some.injEq] at hy
        subst hy
        rw [if_pos rfl]
        have hR : RowS w4 (Grow F w w5) v' (x.loose ++ [c]) := by
          refine ⟨?_, fun q e => ?_⟩
          · rw [List.length_append, List.map_append]
            exact ho4
          · rcases v'loc q e with h1 | h1
            · exact grow q (lvF q h1).1
            · exact .inr ⟨h1.1, by omega⟩
        refine hR.kept (fun q e => ?_) fun _ h => h
        rcases v'loc q e with h1 | h1
        · exact keep5 q (by have := (lvF q h1).2; omega) (fun e' => by subst e'; exact g_ne h1)
        · exact keep5 q h1.2 (fun e' => by subst e'; have := h.fl _ h.fg; omega)
      · rw [if_neg hj] at hy
        rw [if_neg hj]
        have hr := h.loose j y hy
        refine hr.kept (fun q e => ?_) grow
        obtain ⟨cs, hcs⟩ := hr.typed q e
        refine (keep5 q (by have := hcs.lt; omega) (h.g_not hcs (by decide))).trans (keep4 q hcs.lt (fun e' => ?_))
        rcases h.apart j k (List.getElem?_eq_some_iff.1 hy).1 hk hj with h1 | h1
        · rw [h1] at e; cases e
        · exact h1 (e.trans e'.symm)
    apart := fun i j hi hj hne => by
      rw [wrote_length] at hi hj
      have old : ∀ m, m < D.bk.length → m ≠ k → (lv m).ownBlock = none ∨ (lv m).ownBlock ≠ v'.ownBlock := fun m hm hmk => by
        rcases h.apart m k hm hk hmk with h1 | h1
        · exact .inl h1
        · rcases hq : (lv m).ownBlock with _ | q
          · exact .inl rfl
          · refine .inr (fun e => ?_)
            rcases v'loc q e.symm with h2 | h2
            · exact h1 (hq.trans h2.symm)
            · obtain ⟨y, hy⟩ : ∃ y, D.bk[m]? = some y := ⟨_, List.getElem?_eq_getElem hm⟩
              obtain ⟨cs, hcs⟩ := (h.loose m y hy).typed q hq
              have := hcs.lt
              omega
      by_cases hik : i = k
      · subst hik
        have hjk : j ≠ i := fun e => hne e.symm
        rw [if_pos rfl, if_neg hjk]
        rcases old j hj hjk with h1 | h1
        · rcases hq : v'.ownBlock with _ | q
          · exact .inl rfl
          · exact .inr (by rw [h1]; exact fun e => by cases e)
        · exact .inr (fun e => h1 e.symm)
      · rw [if_neg hik]
        by_cases hjk : j = k
        · subst hjk
          rw [if_pos rfl]
          exact old i hi hik
        · rw [if_neg hjk]
          exact h.apart i j hi hj hne
    room := by rw [wrote_length]; exact h.room
    fr := grow _ h.fr
    fg := grow _ h.fg
    fl := fun q hq => by
      rcases hq with h1 | h1
      · have := h.fl q h1
        have := o5.size
        omega
      · exact h1.2
    pos := by
      show 0 < (wrote D.bk k c).length
      rw [wrote_length]; exact h.pos
    few := by
      show (wrote D.bk k c).length ≤ 4096
      rw [wrote_length]; exact h.few
    low := h.low
    high := h.high }
end Go.Proofs.Ytcgecjedgbmmkaa
