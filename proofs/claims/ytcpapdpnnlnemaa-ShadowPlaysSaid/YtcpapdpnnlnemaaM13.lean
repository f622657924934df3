/- New of the document's device; no condition. · What a Write of the document's device turns: a string, appended to the row of its number's loose things, which is put back; condition: fewer than 2^32 things are loose there. · Write of the document's device; conditions: it lies in memory; fewer than 2^32 things are loose in the block. · Flush of the document's device; condition: it lies in memory. · Comes (the On) of the document's device; conditions: it lies in memory; fewer than 2^32 things are loose in each block; the picks lie elsewhere. · Each call of the document's device: the answer and the device behind it that DevCall has; both side by side; conditions: they lie in memory; fewer than 2^32 things are loose in each block. -/
import Derived.Test.YtcpapdpnnlnemaaM12
import Derived.Test.YtcpapdpnnlnemaaM08
import Derived.Test.YtcpapdpnnlnemaaM06
import Derived.Test.YtcpapdpnnlnemaaM07
import Derived.IntWalk
namespace Go.Proofs.Ytcpapdpnnlnemaa
open Go.RowKit Go.Maps

theorem rnew_no (n : Int) (w : World) (hn : n < 1 ∨ 4096 < n) : Calls Try.prog 10 #[.int .i64 n] w fun e w' => e = .returned (.tuple #[.pointer none, err 1]) ∧ w = w' := by
  by_cases h0 : n < 1
  · clear hn
    go_enter Try.func10, Try.ntmps10
    go_wp2
    go_ret2
    exact ⟨rfl, rfl⟩
  · have h1 : 4096 < n := by omega
    have hd : decide (n < 1) = false := by simp; omega
    clear hn h0
    go_enter Try.func10, Try.ntmps10
    go_wp2
    go_ret2
    exact ⟨rfl, rfl⟩

theorem bk_info : (Try.prog.info? 66).map (fun i => (i.zero, i.size, i.bytes)) = some (some (.agg #[.string ⟨#[]⟩, nilSl]), 2, 40) := by kernel_rfl

/-- The cells of k blocks of noughts. -/
def none2 : Nat → List Value
  | 0 => []
  | k + 1 => none2 k ++ [str noughts, nilSl]
theorem none2_length (k : Nat) : (none2 k).length = k * 2 := by
  induction k with
  | zero => rfl
  | succ k ih => rw [none2, List.length_append, ih]; simp; omega
theorem none2_at (k j : Nat) (h : j < k) : (none2 k)[j * 2]? = some (str noughts) ∧ (none2 k)[j * 2 + 1]? = some nilSl := by
  induction k with
  | zero => omega
  | succ k ih =>
    rw [none2]
    by_cases hj : j < k
    · rw [List.getElem?_append_left (by rw [none2_length]; omega), List.getElem?_append_left (by rw [none2_length]; omega)]
      exact ih hj
    · obtain rfl : j = k := by omega
      rw [List.getElem?_append_right (by rw [none2_length]; omega), List.getElem?_append_right (by rw [none2_length]; omega), none2_length]
      simp

/-- A new device is answered. -/
def RNews (w : World) (n : Nat) (e : Ending) (w' : World) : Prop :=
  ∃ r, e = .returned (.tuple #[ptr r, err 0]) ∧ Ref w' r (fresh n) (fun q => w.heap.size ≤ q ∧ q < w'.heap.size) ∧ Below w.heap.size w w'

set_option maxRecDepth 100000 in
theorem rnew_ok (n : Nat) (w : World) (h1 : 1 ≤ n) (h2 : n ≤ 4096) : Calls Try.prog 10 #[.int .i64 (n : Int)] w (RNews w n) := by
  obtain ⟨i0, hi, hz0, hz1, hz2⟩ := info_parts bk_info
  have t1 : decide ((n : Int) < 1) = false := by simp; omega
  have t2 : decide ((4096 : Int) < (n : Int)) = false := by simp; omega
  obtain ⟨w1, hmk, o1, g1⟩ := run_zeros_bs bt (w.alloc (.cells #[nilSl, .int .i64 (-1), .bool true] 63)) (w.heap.size + 1) .i64 .i64 512 (by decide) (by simp)
  rw [show ((512 : Nat) : Int) = 512 from rfl] at hmk
  have hz : List.replicate 512 (0 : UInt8) = noughts := rfl
  rw [hz] at o1
  have hstr := run_string_bs bt (d := 9) Try.underlying9 w1 o1.bs
  simp only [World.size_alloc] at hmk hstr
  have hl5 : noughts.length = 512 := List.length_replicate
  have hc0 := Cel.new w #[nilSl, .int .i64 (-1), .bool true] 63
  have b0 : Below w.heap.size w (w.alloc (.cells #[nilSl, .int .i64 (-1), .bool true] 63)) := (Below.refl _ _).alloc (Nat.le_refl _) _
  have b1 : Below w.heap.size w w1 := b0.grown g1 (by simp) (fun _ h => by cases h)
  have hc1 : Cel w1 w.heap.size [nilSl, .int .i64 (-1), .bool true] 63 := hc0.kept (g1.block _ (by simp) (fun e => by cases e))
  have H1 := Lib.hid (And.intro hc1 (And.intro b1 (And.intro h1 h2)))
  have HS := Lib.hid hl5
  clear hc0 b0 hc1 b1 o1 g1 hl5 hz h1 h2
  go_enter Try.func10, Try.ntmps10
  go_wp2
  go_loopw [6] (fun i wr => ∃ k : Nat, k ≤ n ∧ i = .int .i64 k ∧ (∃ v, Cel wr w.heap.size [v, .int .i64 (-1), .bool true] 63 ∧ wr.ownsRow (w.heap.size + 1) 66 2 v k (none2 k)) ∧ Below w.heap.size w wr) (fun i _ => n - (intOf i).toNat)
  case atStart => exact ⟨0, Nat.zero_le _, rfl, ⟨nilSl, H1.out.1, World.ownsRow_nil _ _ _ _⟩, H1.out.2.1⟩
  case round =>
    obtain ⟨k, hk, rfl, ⟨v, hc, hown⟩, hb⟩ := hrel
    have c0 : wr.cell? ⟨w.heap.size, 0, none⟩ = some v := by rw [hc.cell]; rfl
    have hn4 := H1.out.2.2.2
    have hbase : w.heap.size + 1 ≤ wr.heap.size := hc.lt
    by_cases hlt : k < n
    · have hkn : ((k : Int) < (n : Int)) := by omega
      go_wp2_with (at_builtin; refine wpList_append_own _ rfl (.tmp 26) (.tmp 29) 61 rfl (w.heap.size + 1) 66 i0 (.agg #[.string ⟨#[]⟩, nilSl]) 2 40 Try.underlying61 hi hz0 hz1 hz2 rfl (by decide) v k (none2 k) rfl (hown.alloc _) ⟨wr.heap.size, 0, none⟩ 1 1 [str noughts, nilSl] rfl rfl ?c1 ?c2 ?c3 ?c4 ?c5 ?_)
      case c1 =>
        intro j u hj
        rw [Addr.add_lit, Nat.zero_add, (Cel.new wr #[str noughts, nilSl] 66).cell]
        exact hj
      case c2 => intro u hu; simp at hu; rcases hu with rfl | rfl <;> rfl
      case c3 => unfold maxLen; omega
      case c4 => omega
      case c5 => simp; omega
      intro v' w2 hown' hgrow _
      have hne : v.ownBlock ≠ some w.heap.size := fun e => by
        have := (hown.lt _ e).1
        omega
      have hc2 : Cel w2 w.heap.size [v, .int .i64 (-1), .bool true] 63 := (hc.alloc _).kept (hgrow.block _ (by simp; omega) (fun e => hne e.symm))
      have hb2 : Below w.heap.size w w2 := (hb.alloc hb.size _).grown hgrow (by simp; omega) (fun q e => by have := (hown.lt q e).1; omega)
      obtain ⟨g', cap', rfl⟩ : ∃ g' cap', v' = .slice (some ⟨g', 0, none⟩) (k + 1) cap' := by
        rcases hown'.2 with ⟨_, h0⟩ | ⟨g', cap', cur, e, _⟩
        · omega
        · exact ⟨g', cap', e⟩
      have hset := hc2.set 0 (.slice (some ⟨g', 0, none⟩) (k + 1) cap')
      have hcell2 : w2.cell? ⟨w.heap.size, 0, none⟩ = some v := by rw [hc2.cell]; rfl
      have hfr2 := hc2.frozen 0
      have hown2 : (w2.setCell ⟨w.heap.size, 0, none⟩ (.slice (some ⟨g', 0, none⟩) (k + 1) cap')).ownsRow (w.heap.size + 1) 66 2 (.slice (some ⟨g', 0, none⟩) (k + 1) cap') (k + 1) (none2 (k + 1)) := by
        refine ⟨hown'.1, ?_⟩
        rcases hown'.2 with ⟨_, h0⟩ | ⟨g2, cap2, cur, e, e1, e2, e3⟩
        · omega
        · exact .inr ⟨g2, cap2, cur, e, e1, (Below.heap_setCell _ _ _ _ (fun e => by simp at e; omega)).trans e2, e3⟩
      have HR := Lib.hid (And.intro hset (And.intro hown2 (hb2.setCell (Nat.le_refl _) (p := ⟨w.heap.size, 0, none⟩) (.slice (some ⟨g', 0, none⟩) (k + 1) cap'))))
      clear hown' hgrow hown hc2 hb2 hset hown2 hc c0
      go_wp2
      go_roundw
      case rel => exact ⟨k + 1, by omega, by go_num, ⟨_, HR.out.1, HR.out.2.1⟩, HR.out.2.2⟩
      case measure => simp [intOf]; omega
    · obtain rfl : k = n := by omega
      have HR := Lib.hid (And.intro hc (And.intro hown hb))
      clear hc hown hb
      go_wp2
      go_ret2
      refine ⟨w.heap.size, rfl, ?_, HR.out.2.2⟩
      obtain ⟨hc, hown, hb⟩ := HR.out
      have hlen : (fresh k).bk.length = k := List.length_replicate
      rcases hown.2 with ⟨_, h0⟩ | ⟨g2, cap2, cur, rfl, e1, e2, e3, e4, e5, e6⟩
      · have := H1.out.2.2.1
        omega
      · refine ⟨g2, cap2, cur.toList, fun _ => nilSl, {
          head := by rw [hlen]; exact hc
          row := by unfold Cel; simpa using e2
          cells := fun j x hx => by
            obtain ⟨rfl, hj⟩ := fresh_get hx
            have := none2_at k j hj
            rw [← e6, List.getElem?_take_of_lt (by omega), List.getElem?_take_of_lt (by omega)] at this
            exact this
          loose := fun j x hx => by
            obtain ⟨rfl, hj⟩ := fresh_get hx
            exact RowS.nil _ _
          apart := fun _ _ _ _ _ => .inl rfl
          room := by rw [hlen]; exact e3
          fr := ⟨Nat.le_refl _, by omega⟩
          fg := ⟨by omega, (Array.getElem?_eq_some_iff.1 e2).1⟩
          fl := fun q hq => hq.2
          pos := by rw [hlen]; exact H1.out.2.2.1
          few := by rw [hlen]; omega
          low := by show (-1 : Int) ≤ -1; omega
          high := by show (-1 : Int) ≤ _; omega }⟩
end Go.Proofs.Ytcpapdpnnlnemaa
namespace Go.Proofs.Ytcpapdpnnlnemaa
open Go.RowKit Go.Maps

theorem str_info : (Try.prog.info? 9).map (fun i => (i.zero, i.size, i.bytes)) = some (some (.string ⟨#[]⟩), 1, 16) := by kernel_rfl

theorem RefAt.puts {w w2 : World} {r g cap : Nat} {cur : List Value} {lv : Nat → Value} {D : Dv} {F : Nat → Prop} (h : RefAt w r g cap cur lv D F) {k : Nat} {x : Bk} (hx : D.bk[k]? = some x)
    (hs : x.loose.length < 4294967296) (c : Bytes) (hb : Below w.heap.size w w2) :
    ∃ v' w4, (Builtin.append_ #[64, 64] 64 #[lv k, .slice (some ⟨w2.heap.size, 0, none⟩) 1 1]).run Try.prog (w2.alloc (.cells #[str c] 9)) = .ok v' w4 ∧
      w4.heap[r]? = w.heap[r]? ∧ w4.heap[g]? = w.heap[g]? ∧ (∃ a n c, v' = .slice a n c) ∧
      Ref (w4.setCell ⟨g, k * 2 + 1, none⟩ v') r ⟨wrote D.bk k c, D.on, D.left⟩ (Grow F w (w4.setCell ⟨g, k * 2 + 1, none⟩ v')) ∧ Only F w (w4.setCell ⟨g, k * 2 + 1, none⟩ v') ∧ Only F w w4 := by
  have hk := (List.getElem?_eq_some_iff.1 hx).1
  have hfew := h.few
  obtain ⟨i0, hi, hz0, hz1, hz2⟩ := info_parts str_info
  obtain ⟨ho, hF⟩ := h.loose k x hx
  have o3 : Only F w (w2.alloc (.cells #[str c] 9)) := (Only.of_below hb F).alloc _
  have z3 : (w2.alloc (.cells #[str c] 9)).heap.size = w2.heap.size + 1 := by simp
  have keep3 : ∀ q, q < w.heap.size → (w2.alloc (.cells #[str c] 9)).heap[q]? = w.heap[q]? := fun q hq =>
    (Below.heap_alloc _ _ _ (Nat.lt_of_lt_of_le hq hb.size)).trans (hb.block q hq)
  have hnew := cell_one_new w2 (str c) 9
  generalize w2.alloc (.cells #[str c] 9) = w3 at *
  have ho3 : w3.ownsRow 0 9 1 (lv k) x.loose.length (x.loose.map str) := by
    refine ⟨ho.1, ho.2.imp id fun ⟨q, cap, cur, e1, e2, e3, r⟩ => ⟨q, cap, cur, e1, e2, ?_, r⟩⟩
    rw [keep3 q ((Array.getElem?_eq_some_iff.1 e3).1)]
    exact e3
  obtain ⟨v', w4, hrun, ho4, hg4, _, hloc⟩ := run_append_own_at (P := Try.prog) (w := w3) 0 64 64 9 i0 (.string ⟨#[]⟩) 1 16 Try.underlying64 hi hz0 hz1 hz2 rfl (by decide) (lv k) x.loose.length (x.loose.map str) ho3
    ⟨w2.heap.size, 0, none⟩ 1 1 [str c] rfl hnew (by simp [Value.oneCell']) (by unfold maxLen; omega) (by omega) (Nat.zero_le _)
  have lvF : ∀ q, (lv k).ownBlock = some q → F q ∧ q < w.heap.size := fun q e => ⟨hF q e, h.fl q (hF q e)⟩
  have lvT : ∀ q, (lv k).ownBlock = some q → ∃ cs, Cel w q cs 9 := (h.loose k x hx).typed
  have keep4 : ∀ q, q < w.heap.size → (lv k).ownBlock ≠ some q → w4.heap[q]? = w.heap[q]? := fun q hq hne =>
    (hg4.block q (by have := hb.size; omega) (fun e => hne e.symm)).trans (keep3 q hq)
  have o4 : Only F w w4 := o3.grown hg4 (fun q e => .inl (lvF q e).1)
  have r_ne : (lv k).ownBlock ≠ some r := fun e => by
    obtain ⟨cs, hc⟩ := lvT r e
    have := (hc.inj h.head).2
    cases this
  have g_ne : (lv k).ownBlock ≠ some g := fun e => by
    obtain ⟨cs, hc⟩ := lvT g e
    have := (hc.inj h.row).2
    cases this
  have r4 := keep4 r (h.fl _ h.fr) r_ne
  have g4 := keep4 g (h.fl _ h.fg) g_ne
  have hone : ∃ a n c, v' = .slice a n c := by
    rcases ho4.2 with ⟨rfl, _⟩ | ⟨q, cap', cur', rfl, _⟩ <;> exact ⟨_, _, _, rfl⟩
  have o5 : Only F w (w4.setCell ⟨g, k * 2 + 1, none⟩ v') := o4.setCell (p := ⟨g, k * 2 + 1, none⟩) (.inl h.fg) _
  have z5 : (w4.setCell ⟨g, k * 2 + 1, none⟩ v').heap.size = w4.heap.size := by simp [World.setCell]
  refine ⟨v', w4, hrun, r4, g4, hone, ⟨g, cap, cur.set (k * 2 + 1) v', fun j => if j = k then v' else lv j, ?_⟩, o5, o4⟩
  have row5 : Cel (w4.setCell ⟨g, k * 2 + 1, none⟩ v') g (cur.set (k * 2 + 1) v') 66 := (h.row.kept g4).set _ _
  have keep5 : ∀ q, q < w4.heap.size → q ≠ g → (w4.setCell ⟨g, k * 2 + 1, none⟩ v').heap[q]? = w4.heap[q]? := fun q hq hne => Below.heap_setCell _ _ _ _ (fun e => hne e)
  have v'loc : ∀ q, v'.ownBlock = some q → (lv k).ownBlock = some q ∨ (w.heap.size ≤ q ∧ q < w4.heap.size) := fun q e => by
    rcases hloc with h1 | h1
    · exact .inl (h1 ▸ e)
    · rw [h1] at e
      cases e
      exact .inr ⟨by have := hb.size; omega, (World.ownsRow.lt ho4 _ h1).2⟩
  have zb := hb.size
  have z4 := hg4.size
  have clen : k * 2 + 1 < cur.length := by
    have := (h.cells k x hx).2
    exact (List.getElem?_eq_some_iff.1 this).1
  generalize w4.setCell ⟨g, k * 2 + 1, none⟩ v' = w5 at *
  have grow : ∀ q, F q → Grow F w w5 q := fun q hq => .inl hq
  exact {
    head := by
      show Cel w5 r [.slice (some ⟨g, 0, none⟩) (wrote D.bk k c).length cap, _, _] _
      rw [wrote_length]
      refine h.head.kept ((keep5 r (by have := h.fl _ h.fr; omega) (fun e => ?_)).trans r4)
      exact absurd e (h.g_not h.head (by decide))
    row := row5
    cells := fun j y hy => by
      rw [wrote_get] at hy
      by_cases hj : j = k
      · subst hj
        rw [if_pos rfl, hx] at hy
        simp only [Option.map_some, Option.some.injEq] at hy
        subst hy
        rw [if_pos rfl, List.getElem?_set_ne (by omega), List.getElem?_set_self clen]
        exact ⟨(h.cells j x hx).1, rfl⟩
      · rw [if_neg hj] at hy
        rw [if_neg hj, List.getElem?_set_ne (by omega), List.getElem?_set_ne (by omega)]
        exact h.cells j y hy
    loose := fun j y hy => by
      rw [wrote_get] at hy
      by_cases hj : j = k
      · subst hj
        rw [if_pos rfl, hx] at hy
        simp only [Option.map_some, Option.some.injEq] at hy
        subst hy
        rw [if_pos rfl]
        have hR : RowS w4 (Grow F w w5) v' (x.loose ++ [c]) := by
          refine ⟨?_, fun q e => ?_⟩
          · rw [List.length_append, List.map_append]
            exact ho4
          · rcases v'loc q e with h1 | h1
            · exact grow q (lvF q h1).1
            · exact .inr ⟨h1.1, by omega⟩
        refine hR.kept (fun q e => ?_) fun _ h => h
        rcases v'loc q e with h1 | h1
        · exact keep5 q (by have := (lvF q h1).2; omega) (fun e' => by subst e'; exact g_ne h1)
        · exact keep5 q h1.2 (fun e' => by subst e'; have := h.fl _ h.fg; omega)
      · rw [if_neg hj] at hy
        rw [if_neg hj]
        have hr := h.loose j y hy
        refine hr.kept (fun q e => ?_) grow
        obtain ⟨cs, hcs⟩ := hr.typed q e
        refine (keep5 q (by have := hcs.lt; omega) (h.g_not hcs (by decide))).trans (keep4 q hcs.lt (fun e' => ?_))
        rcases h.apart j k (List.getElem?_eq_some_iff.1 hy).1 hk hj with h1 | h1
        · rw [h1] at e; cases e
        · exact h1 (e.trans e'.symm)
    apart := fun i j hi hj hne => by
      rw [wrote_length] at hi hj
      have old : ∀ m, m < D.bk.length → m ≠ k → (lv m).ownBlock = none ∨ (lv m).ownBlock ≠ v'.ownBlock := fun m hm hmk => by
        rcases h.apart m k hm hk hmk with h1 | h1
        · exact .inl h1
        · rcases hq : (lv m).ownBlock with _ | q
          · exact .inl rfl
          · refine .inr (fun e => ?_)
            rcases v'loc q e.symm with h2 | h2
            · exact h1 (hq.trans h2.symm)
            · obtain ⟨y, hy⟩ : ∃ y, D.bk[m]? = some y := ⟨_, List.getElem?_eq_getElem hm⟩
              obtain ⟨cs, hcs⟩ := (h.loose m y hy).typed q hq
              have := hcs.lt
              omega
      by_cases hik : i = k
      · subst hik
        have hjk : j ≠ i := fun e => hne e.symm
        rw [if_pos rfl, if_neg hjk]
        rcases old j hj hjk with h1 | h1
        · rcases hq : v'.ownBlock with _ | q
          · exact .inl rfl
          · exact .inr (by rw [h1]; exact fun e => by cases e)
        · exact .inr (fun e => h1 e.symm)
      · rw [if_neg hik]
        by_cases hjk : j = k
        · subst hjk
          rw [if_pos rfl]
          exact old i hi hik
        · rw [if_neg hjk]
          exact h.apart i j hi hj hne
    room := by rw [wrote_length]; exact h.room
    fr := grow _ h.fr
    fg := grow _ h.fg
    fl := fun q hq => by
      rcases hq with h1 | h1
      · have := h.fl q h1
        have := o5.size
        omega
      · exact h1.2
    pos := by
      show 0 < (wrote D.bk k c).length
      rw [wrote_length]; exact h.pos
    few := by
      show (wrote D.bk k c).length ≤ 4096
      rw [wrote_length]; exact h.few
    low := h.low
    high := h.high }
end Go.Proofs.Ytcpapdpnnlnemaa
namespace Go.Proofs.Ytcpapdpnnlnemaa
open Go.RowKit Go.Maps

/-- What the region of a Write reads stays. -/
def KeepsR (r g : Nat) (w1 w : World) : Prop := w.heap[r]? = w1.heap[r]? ∧ w.heap[g]? = w1.heap[g]?

section
variable {w : World} {r : Nat} {D : Dv} {F : Nat → Prop}

theorem rwrite_off (h : Ref w r D F) (ho : D.on = false) (k : Int) (v : Value) : Calls Try.prog 21 #[ptr r, .int .i64 k, v] w fun e w' => e = .returned (err 8) ∧ w = w' := by
  obtain ⟨g, cap, cur, lv, h⟩ := h
  obtain ⟨_, c1, c2, _, f1, f2⟩ := h.top
  rw [ho] at c2
  clear h ho
  go_enter Try.func21, Try.ntmps21
  go_wp2
  go_ret
  exact ⟨rfl, rfl⟩

theorem rwrite_no (h : Ref w r D F) (ho : D.on = true) (k : Int) (hk : k < 0 ∨ (D.bk.length : Int) ≤ k) (v : Value) : Calls Try.prog 21 #[ptr r, .int .i64 k, v] w fun e w' => e = .returned (err 1) ∧ w = w' := by
  have h0 := h
  obtain ⟨g, cap, cur, lv, h⟩ := h
  obtain ⟨_, c1, c2, _, f1, f2⟩ := h.top
  rw [ho] at c2
  clear h ho
  go_enter Try.func21, Try.ntmps21
  go_wp2_with fail
  refine (rhas_no h0 k hk).mono ?_
  rintro e w1 ⟨rfl, rfl⟩
  go_wp2
  go_ret
  exact ⟨rfl, rfl⟩

theorem rwrite_short (h : Ref w r D F) (ho : D.on = true) (k : Nat) (hk : k < D.bk.length) {v : Value} {l : Bytes} (hv : Bs w v l) (hl : l.length ≠ 512) : Calls Try.prog 21 #[ptr r, .int .i64 (k : Int), v] w fun e w' => e = .returned (err 1) ∧ w = w' := by
  obtain ⟨a, c, rfl, _⟩ := hv.shape
  have hq : (((l.length : Int)) != 512) = true := by rw [bne_iff_ne]; omega
  have h0 := h
  obtain ⟨g, cap, cur, lv, h⟩ := h
  obtain ⟨_, c1, c2, _, f1, f2⟩ := h.top
  rw [ho] at c2
  clear h ho hl hv
  go_enter Try.func21, Try.ntmps21
  go_wp2_with fail
  refine (rhas_yes h0 k hk).mono ?_
  rintro e w1 ⟨rfl, rfl⟩
  go_wp2
  go_ret
  exact ⟨rfl, rfl⟩

theorem rwrite_dies (h : Ref w r D F) (ho : D.on = true) (hz : D.left = 0) (k : Nat) (hk : k < D.bk.length) {v : Value} {l : Bytes} (hv : Bs w v l) (hl : l.length = 512) :
    Calls Try.prog 21 #[ptr r, .int .i64 (k : Int), v] w fun e w' => e = .returned (err 8) ∧ Ref w' r ⟨D.bk, false, D.left⟩ F ∧ Only (· = r) w w' := by
  obtain ⟨a, c, rfl, _⟩ := hv.shape
  rw [hl]
  have h0 := h
  obtain ⟨g, cap, cur, lv, h⟩ := h
  obtain ⟨_, c1, c2, _, f1, f2⟩ := h.top
  rw [ho] at c2
  have HO := Lib.hid hz
  clear h ho hl hv hz
  go_enter Try.func21, Try.ntmps21
  go_wp2_with fail
  refine (rhas_yes h0 k hk).mono ?_
  rintro e w1 ⟨rfl, rfl⟩
  go_wp2_with fail
  refine (goes_dies h0 HO.out).mono ?_
  rintro e w1 ⟨rfl, hh⟩
  go_wp2
  go_ret
  exact ⟨rfl, hh⟩

set_option maxRecDepth 100000 in
set_option maxHeartbeats 1000000 in
theorem rwrite_ok (h : Ref w r D F) (ho : D.on = true) (hz : D.left ≠ 0) {k : Nat} {x : Bk} (hx : D.bk[k]? = some x) (hs : x.loose.length < 4294967296) {v : Value} {l : Bytes} (hv : Bs w v l) (hl : l.length = 512)
    (hoff : ∀ q, v.ownBlock = some q → ¬ F q) :
    Calls Try.prog 21 #[ptr r, .int .i64 (k : Int), v] w fun e w' => e = .returned (err 0) ∧ Ref w' r ⟨wrote D.bk k l, D.on, spent D.left⟩ (Grow F w w') ∧ Only F w w' := by
  have hk := (List.getElem?_eq_some_iff.1 hx).1
  obtain ⟨a, c, rfl, hb⟩ := hv.shape
  have hlen : (Value.slice a l.length c) = .slice a 512 c := by rw [hl]
  rw [hlen] at hb hoff ⊢
  have HO := Lib.hid (And.intro hz (And.intro hx hl))
  have h0 := h
  obtain ⟨g, cap, cur, lv, h⟩ := h
  have c2 := h.top.2.2.1
  rw [ho] at c2
  have HT := Lib.hid ho
  clear hl hv hz hx hlen h ho
  go_enter Try.func21, Try.ntmps21
  go_wp2_with fail
  refine (rhas_yes h0 k hk).mono ?_
  rintro e w1 ⟨rfl, rfl⟩
  go_wp2_with fail
  refine (goes_on h0 HO.out.1).mono ?_
  rintro e w1 ⟨rfl, h1, o1⟩
  clear c2
  have fr := h0.fr
  obtain ⟨g, cap, cur, lv, h1⟩ := h1
  go_wp2_with fail
  have hb1 : Bs w1 (.slice a 512 c) l := hb.only o1 (fun q hq e => hoff q hq (e ▸ fr))
  have hlv := (h1.loose k x HO.out.2.1).shape
  obtain ⟨la, lc, hlv⟩ := hlv
  have hfew := h1.few
  have hroom := h1.room
  obtain ⟨t0, _⟩ := h1.top
  obtain ⟨_, a1, _⟩ := h1.at HO.out.2.1
  have HV := Lib.hid hlv
  clear hlv
  simp only at t0 hfew hroom
  obtain ⟨n, hn⟩ : ∃ n, n = D.bk.length := ⟨_, rfl⟩
  obtain ⟨V, hV⟩ : ∃ V, V = lv k := ⟨_, rfl⟩
  rw [← hn] at t0 hfew hroom hk
  rw [← hV] at a1
  have HN := Lib.hid (And.intro hn hV)
  clear hn hV
  have HC := Lib.hid (fun (W : World) (hW : KeepsR r g w1 W ∧ Bs W (.slice a 512 c) l) =>
    And.intro ((World.cell?_of_block (w := w1) (a := ⟨r, 0, none⟩) hW.1.1).trans t0) (And.intro ((World.cell?_of_block (w := w1) (a := ⟨g, k * 2 + 1, none⟩) hW.1.2).trans a1) (And.intro hk (run_string_bs bt (d := 9) Try.underlying9 W hW.2))))
  clear t0 a1
  have HB := Lib.hid hb1
  refine region_till 19 (fun W => KeepsR r g w1 W ∧ Bs W (.slice a 512 c) l) (by kernel_rfl) ⟨⟨rfl, rfl⟩, hb1.drewN 1⟩ (fun hS => ?_)
  refine take_till (i := 0) (some 23) (ptr r) rfl rfl (by kernel_rfl) (by kernel_rfl) (by kernel_rfl) (by kernel_rfl) (by decide) (fun _ _ _ h => h) (by rfl) (fun W hW => ?_) hS ?_
  · have hc := HC.out W hW
    obtain ⟨hc1, hc2, hc3, hc4⟩ := hc
    clear hW
    go_simp
  simp only [Act.put, List.setIfInBounds_toArray, List.set_cons_zero, List.set_cons_succ]
  refine take_till (i := 1) (some 24) (ptr r) rfl rfl (by kernel_rfl) (by kernel_rfl) (by kernel_rfl) (by kernel_rfl) (by decide) (fun _ _ _ h => h) (by rfl) (fun W hW => ?_) hS ?_
  · have hc := HC.out W hW
    obtain ⟨hc1, hc2, hc3, hc4⟩ := hc
    clear hW
    go_simp
  simp only [Act.put, List.setIfInBounds_toArray, List.set_cons_zero, List.set_cons_succ]
  refine take_till (i := 2) (some 25) (ptr r) rfl rfl (by kernel_rfl) (by kernel_rfl) (by kernel_rfl) (by kernel_rfl) (by decide) (fun _ _ _ h => h) (by rfl) (fun W hW => ?_) hS ?_
  · have hc := HC.out W hW
    obtain ⟨hc1, hc2, hc3, hc4⟩ := hc
    clear hW
    go_simp
  simp only [Act.put, List.setIfInBounds_toArray, List.set_cons_zero, List.set_cons_succ]
  refine take_till (i := 3) (some 26) (.slice (some ⟨g, 0, none⟩) n cap) rfl rfl (by kernel_rfl) (by kernel_rfl) (by kernel_rfl) (by kernel_rfl) (by decide) (fun _ _ _ h => h) (by rfl) (fun W hW => ?_) hS ?_
  · have hc := HC.out W hW
    obtain ⟨hc1, hc2, hc3, hc4⟩ := hc
    clear hW
    go_simp
  simp only [Act.put, List.setIfInBounds_toArray, List.set_cons_zero, List.set_cons_succ]
  refine take_till (i := 4) (some 27) (.int .i64 (k : Int)) rfl rfl (by kernel_rfl) (by kernel_rfl) (by kernel_rfl) (by kernel_rfl) (by decide) (fun _ _ _ h => h) (by rfl) (fun W hW => ?_) hS ?_
  · have hc := HC.out W hW
    obtain ⟨hc1, hc2, hc3, hc4⟩ := hc
    clear hW
    go_simp
  simp only [Act.put, List.setIfInBounds_toArray, List.set_cons_zero, List.set_cons_succ]
  refine take_till (i := 5) (some 28) (ptr r) rfl rfl (by kernel_rfl) (by kernel_rfl) (by kernel_rfl) (by kernel_rfl) (by decide) (fun _ _ _ h => h) (by rfl) (fun W hW => ?_) hS ?_
  · have hc := HC.out W hW
    obtain ⟨hc1, hc2, hc3, hc4⟩ := hc
    clear hW
    go_simp
  simp only [Act.put, List.setIfInBounds_toArray, List.set_cons_zero, List.set_cons_succ]
  refine take_till (i := 6) (some 29) (ptr r) rfl rfl (by kernel_rfl) (by kernel_rfl) (by kernel_rfl) (by kernel_rfl) (by decide) (fun _ _ _ h => h) (by rfl) (fun W hW => ?_) hS ?_
  · have hc := HC.out W hW
    obtain ⟨hc1, hc2, hc3, hc4⟩ := hc
    clear hW
    go_simp
  simp only [Act.put, List.setIfInBounds_toArray, List.set_cons_zero, List.set_cons_succ]
  refine take_till (i := 7) (some 30) (ptr r) rfl rfl (by kernel_rfl) (by kernel_rfl) (by kernel_rfl) (by kernel_rfl) (by decide) (fun _ _ _ h => h) (by rfl) (fun W hW => ?_) hS ?_
  · have hc := HC.out W hW
    obtain ⟨hc1, hc2, hc3, hc4⟩ := hc
    clear hW
    go_simp
  simp only [Act.put, List.setIfInBounds_toArray, List.set_cons_zero, List.set_cons_succ]
  refine take_till (i := 8) (some 31) (.slice (some ⟨g, 0, none⟩) n cap) rfl rfl (by kernel_rfl) (by kernel_rfl) (by kernel_rfl) (by kernel_rfl) (by decide) (fun _ _ _ h => h) (by rfl) (fun W hW => ?_) hS ?_
  · have hc := HC.out W hW
    obtain ⟨hc1, hc2, hc3, hc4⟩ := hc
    clear hW
    go_simp
  simp only [Act.put, List.setIfInBounds_toArray, List.set_cons_zero, List.set_cons_succ]
  refine take_till (i := 9) (some 32) (.int .i64 (k : Int)) rfl rfl (by kernel_rfl) (by kernel_rfl) (by kernel_rfl) (by kernel_rfl) (by decide) (fun _ _ _ h => h) (by rfl) (fun W hW => ?_) hS ?_
  · have hc := HC.out W hW
    obtain ⟨hc1, hc2, hc3, hc4⟩ := hc
    clear hW
    go_simp
  simp only [Act.put, List.setIfInBounds_toArray, List.set_cons_zero, List.set_cons_succ]
  refine take_till (i := 10) (some 33) (.pointer (some ⟨g, k * 2, none⟩)) rfl rfl (by kernel_rfl) (by kernel_rfl) (by kernel_rfl) (by kernel_rfl) (by decide) (fun _ _ _ h => h) (by rfl) (fun W hW => ?_) hS ?_
  · have hc := HC.out W hW
    obtain ⟨hc1, hc2, hc3, hc4⟩ := hc
    clear hW
    go_simp
  simp only [Act.put, List.setIfInBounds_toArray, List.set_cons_zero, List.set_cons_succ]
  refine take_till (i := 11) (some 34) (.pointer (some ⟨g, k * 2 + 1, none⟩)) rfl rfl (by kernel_rfl) (by kernel_rfl) (by kernel_rfl) (by kernel_rfl) (by decide) (fun _ _ _ h => h) (by rfl) (fun W hW => ?_) hS ?_
  · have hc := HC.out W hW
    obtain ⟨hc1, hc2, hc3, hc4⟩ := hc
    clear hW
    go_simp
  simp only [Act.put, List.setIfInBounds_toArray, List.set_cons_zero, List.set_cons_succ]
  refine take_till (i := 12) (some 35) (V) rfl rfl (by kernel_rfl) (by kernel_rfl) (by kernel_rfl) (by kernel_rfl) (by decide) (fun _ _ _ h => h) (by rfl) (fun W hW => ?_) hS ?_
  · have hc := HC.out W hW
    obtain ⟨hc1, hc2, hc3, hc4⟩ := hc
    clear hW
    go_simp
  simp only [Act.put, List.setIfInBounds_toArray, List.set_cons_zero, List.set_cons_succ]
  refine take_till (i := 13) (some 36) (.slice a 512 c) rfl rfl (by kernel_rfl) (by kernel_rfl) (by kernel_rfl) (by kernel_rfl) (by decide) (fun _ _ _ h => h) (by rfl) (fun W hW => ?_) hS ?_
  · have hc := HC.out W hW
    obtain ⟨hc1, hc2, hc3, hc4⟩ := hc
    clear hW
    go_simp
  simp only [Act.put, List.setIfInBounds_toArray, List.set_cons_zero, List.set_cons_succ]
  refine take_till (i := 14) (some 37) (str l) rfl rfl (by kernel_rfl) (by kernel_rfl) (by kernel_rfl) (by kernel_rfl) (by decide) (fun _ _ _ h => h) (by rfl) (fun W hW => ?_) hS ?_
  · have hc := HC.out W hW
    obtain ⟨hc1, hc2, hc3, hc4⟩ := hc
    clear hW
    go_simp
  simp only [Act.put, List.setIfInBounds_toArray, List.set_cons_zero, List.set_cons_succ]
  obtain ⟨v', w4, hrun4, r4, g4, ⟨va, vn, vc, hv'⟩, href, honly, h04⟩ := h1.puts HO.out.2.1 hs l (w2 := w1.drew) ⟨rfl, rfl, rfl, Nat.le_refl _, fun _ _ => rfl⟩
  have hb3 : Below w1.heap.size w1 (w1.drew.alloc (.cells #[str l] 9)) := (show Below w1.heap.size w1 w1.drew from ⟨rfl, rfl, rfl, Nat.le_refl _, fun _ _ => rfl⟩).alloc (Nat.le_refl _) _
  have hlt := fun q hq => h1.fl q hq
  have hoff1 : ∀ q, (Value.slice a 512 c).ownBlock = some q → ¬ F q := hoff
  subst hv'
  have hc4 : w4.cell? ⟨g, k * 2 + 1, none⟩ = some (lv k) := by
    have := (h1.at HO.out.2.1).2.1
    exact (World.cell?_of_block (w := w1) (a := ⟨g, k * 2 + 1, none⟩) g4).trans this
  have hf4 : w4.frozen? ⟨g, k * 2 + 1, none⟩ = false := (h1.row.kept g4).frozen _
  clear hS
  refine next_till 15 (by kernel_rfl) rfl (fun K hK => ?_)
  go_simp
  refine hK.out _ _ (fun _ => ⟨⟨hb3.block r (hlt _ fr), hb3.block g (hlt _ h1.fg)⟩, HB.out.below hb3⟩) ?_
  clear hK K
  refine next_till 16 (by kernel_rfl) rfl (fun K hK => ?_)
  rw [if_pos (by rfl)]
  rw [← HN.out.2] at hrun4
  refine wp_append_run (.tmp 35) (.tmp 38) 64 rfl rfl rfl hrun4 ?_
  refine hK.out _ _ (fun _ => ⟨⟨r4, g4⟩, HB.out.only h04 hoff1⟩) ?_
  simp only [Act.put, List.setIfInBounds_toArray]
  clear hK K
  refine next_till 17 (by kernel_rfl) rfl (fun K hK => ?_)
  go_simp
  refine hK.out _ _ (fun _ => ⟨⟨r4, g4⟩, HB.out.only h04 hoff1⟩) ?_
  clear hK K
  refine next_till 18 (by kernel_rfl) rfl (fun K hK => ?_)
  go_simp
  refine hK.out _ _ (fun _ => ⟨⟨r4, g4⟩, HB.out.only h04 hoff1⟩) ?_
  clear hK K
  refine next_till 19 (by kernel_rfl) rfl (fun K hK => ?_)
  go_simp
  refine hK.out _ _ (fun e => absurd rfl e) ?_
  clear hK K
  refine done_till (by kernel_rfl) ?_ _
  go_wp2
  go_ret
  have hz := o1.size
  have hz5 := honly.size
  refine ⟨rfl, href.widen (fun q hq => hq.imp id fun hq => ⟨by omega, hq.2⟩) (fun q hq => ?_), (o1.mono (fun q _ e => e ▸ fr)).trans honly⟩
  rcases hq with hq | hq
  · have := h1.fl q hq
    omega
  · exact hq.2
end
end Go.Proofs.Ytcpapdpnnlnemaa
namespace Go.Proofs.Ytcpapdpnnlnemaa
open Go.RowKit Go.Maps

/-- The first k of the new blocks, and the old ones behind them. -/
def mixed (new old : List Bk) (k : Nat) : List Bk := new.take k ++ old.drop k
theorem mixed_zero (new old : List Bk) : mixed new old 0 = old := by simp [mixed]
theorem mixed_all {new old : List Bk} (h : new.length = old.length) : mixed new old old.length = new := by simp [mixed, ← h]
theorem mixed_length {new old : List Bk} (h : new.length = old.length) (k : Nat) : (mixed new old k).length = old.length := by simp [mixed, h]; omega
theorem mixed_at {new old : List Bk} (h : new.length = old.length) {k : Nat} (hk : k < old.length) : (mixed new old k)[k]? = old[k]? := by
  unfold mixed
  rw [List.getElem?_append_right (by simp; omega)]
  have : (new.take k).length = k := by simp; omega
  rw [this, List.getElem?_drop]
  simp
theorem mixed_set {new old : List Bk} (h : new.length = old.length) {k : Nat} {x : Bk} (hk : new[k]? = some x) : (mixed new old k).set k x = mixed new old (k + 1) := by
  have hlt := (List.getElem?_eq_some_iff.1 hk).1
  unfold mixed
  have hl : (new.take k).length = k := by simp; omega
  rw [List.set_append_right _ _ (by omega), hl, Nat.sub_self, List.take_add_one, hk]
  rw [List.drop_eq_getElem_cons (by omega : k < old.length)]
  simp only [List.set_cons_zero, Option.toList_some, List.append_assoc, List.singleton_append]

/-- One block is settled. -/
theorem RefAt.one {w : World} {r g cap : Nat} {cur : List Value} {lv : Nat → Value} {D : Dv} {F : Nat → Prop} (h : RefAt w r g cap cur lv D F) {k : Nat} {x : Bk} (hx : D.bk[k]? = some x) (s : Bytes) :
    RefAt ((w.setCell ⟨g, k * 2, none⟩ (str s)).setCell ⟨g, k * 2 + 1, none⟩ nilSl) r g cap ((cur.set (k * 2) (str s)).set (k * 2 + 1) nilSl) (fun j => if j = k then nilSl else lv j) ⟨D.bk.set k ⟨s, []⟩, D.on, D.left⟩ F ∧
    Only F w ((w.setCell ⟨g, k * 2, none⟩ (str s)).setCell ⟨g, k * 2 + 1, none⟩ nilSl) := by
  have hk := (List.getElem?_eq_some_iff.1 hx).1
  have ho : Only F w ((w.setCell ⟨g, k * 2, none⟩ (str s)).setCell ⟨g, k * 2 + 1, none⟩ nilSl) := ((Only.refl F w).setCell (p := ⟨g, k * 2, none⟩) (.inl h.fg) _).setCell (p := ⟨g, k * 2 + 1, none⟩) (.inl h.fg) _
  have hrow := (h.row.set (k * 2) (str s)).set (k * 2 + 1) nilSl
  have hk' : ∀ q, q ≠ g → ((w.setCell ⟨g, k * 2, none⟩ (str s)).setCell ⟨g, k * 2 + 1, none⟩ nilSl).heap[q]? = w.heap[q]? := fun q hq =>
    (Below.heap_setCell _ _ _ _ (fun e => hq e)).trans (Below.heap_setCell _ _ _ _ (fun e => hq e))
  have hc := h.cells k x hx
  have l1 := (List.getElem?_eq_some_iff.1 hc.1).1
  have l2 := (List.getElem?_eq_some_iff.1 hc.2).1
  refine ⟨?_, ho⟩
  generalize (w.setCell ⟨g, k * 2, none⟩ (str s)).setCell ⟨g, k * 2 + 1, none⟩ nilSl = w5 at *
  exact {
    head := by
      show Cel w5 r [.slice (some ⟨g, 0, none⟩) (D.bk.set k _).length cap, _, _] _
      rw [List.length_set]
      exact h.head.kept (hk' r (h.g_not h.head (by decide)))
    row := hrow
    cells := fun j y hy => by
      by_cases hj : j = k
      · subst hj
        rw [List.getElem?_set_self hk, Option.some.injEq] at hy
        subst hy
        rw [if_pos rfl, List.getElem?_set_ne (by omega), List.getElem?_set_self (by omega), List.getElem?_set_self (by rw [List.length_set]; omega)]
        exact ⟨rfl, rfl⟩
      · rw [List.getElem?_set_ne (by omega)] at hy
        rw [if_neg hj, List.getElem?_set_ne (by omega), List.getElem?_set_ne (by omega), List.getElem?_set_ne (by omega), List.getElem?_set_ne (by omega)]
        exact h.cells j y hy
    loose := fun j y hy => by
      by_cases hj : j = k
      · subst hj
        rw [List.getElem?_set_self hk, Option.some.injEq] at hy
        subst hy
        rw [if_pos rfl]
        exact RowS.nil _ _
      · rw [List.getElem?_set_ne (by omega)] at hy
        rw [if_neg hj]
        have hr := h.loose j y hy
        exact hr.kept (fun q hq => by
          obtain ⟨cs, hcs⟩ := hr.typed q hq
          exact hk' q (h.g_not hcs (by decide))) fun _ h => h
    apart := fun i j hi hj hne => by
      rw [List.length_set] at hi hj
      by_cases hik : i = k
      · rw [if_pos hik]; exact .inl rfl
      · by_cases hjk : j = k
        · rw [if_neg hik, if_pos hjk]
          rcases hq : (lv i).ownBlock with _ | q
          · exact .inl rfl
          · exact .inr (fun e => by cases e)
        · rw [if_neg hik, if_neg hjk]
          exact h.apart i j hi hj hne
    room := by rw [List.length_set]; exact h.room
    fr := h.fr
    fg := h.fg
    fl := fun q hq => Nat.lt_of_lt_of_le (h.fl q hq) ho.size
    pos := by rw [List.length_set]; exact h.pos
    few := by rw [List.length_set]; exact h.few
    low := h.low
    high := h.high }

section
variable {w : World} {r : Nat} {D : Dv} {F : Nat → Prop}

theorem rflush_off (h : Ref w r D F) (ho : D.on = false) : Calls Try.prog 33 #[ptr r] w fun e w' => e = .returned (err 8) ∧ w = w' := by
  obtain ⟨g, cap, cur, lv, h⟩ := h
  obtain ⟨_, c1, c2, _, f1, f2⟩ := h.top
  rw [ho] at c2
  clear h ho
  go_enter Try.func33, Try.ntmps33
  go_wp2
  go_ret
  exact ⟨rfl, rfl⟩

theorem rflush_dies (h : Ref w r D F) (ho : D.on = true) (hz : D.left = 0) : Calls Try.prog 33 #[ptr r] w fun e w' => e = .returned (err 8) ∧ Ref w' r ⟨D.bk, false, D.left⟩ F ∧ Only (· = r) w w' := by
  have h0 := h
  obtain ⟨g, cap, cur, lv, h⟩ := h
  obtain ⟨_, c1, c2, _, f1, f2⟩ := h.top
  rw [ho] at c2
  have HO := Lib.hid hz
  clear h ho hz
  go_enter Try.func33, Try.ntmps33
  go_wp2_with fail
  refine (goes_dies h0 HO.out).mono ?_
  rintro e w1 ⟨rfl, hh⟩
  go_wp2
  go_ret
  exact ⟨rfl, hh⟩

theorem flushed_at {l : List Bk} {k : Nat} {x : Bk} (h : l[k]? = some x) : (flushed l)[k]? = some ⟨x.stands, []⟩ := by simp [flushed, h]

set_option maxRecDepth 100000 in
set_option maxHeartbeats 1000000 in
theorem rflush_ok (h : Ref w r D F) (ho : D.on = true) (hz : D.left ≠ 0) : Calls Try.prog 33 #[ptr r] w fun e w' => e = .returned (err 0) ∧ Ref w' r ⟨flushed D.bk, D.on, spent D.left⟩ F ∧ Only F w w' := by
  have h0 := h
  have fr := h.fr
  obtain ⟨g, cap, cur, lv, h⟩ := h
  have c2 := h.top.2.2.1
  rw [ho] at c2
  have HO := Lib.hid (And.intro hz ho)
  clear h ho hz
  go_enter Try.func33, Try.ntmps33
  go_wp2_with fail
  refine (goes_on h0 HO.out.1).mono ?_
  rintro e w1 ⟨rfl, h1, o1⟩
  clear c2
  obtain ⟨g, cap, cur, lv, h1⟩ := h1
  have o1' : Only F w w1 := o1.mono (fun q _ e => e ▸ fr)
  have hm : RefAt w1 r g cap cur lv ⟨mixed (flushed D.bk) D.bk 0, D.on, spent D.left⟩ F := by rw [mixed_zero]; exact h1
  have hfew : D.bk.length ≤ 4096 := h1.few
  have hroom : D.bk.length ≤ cap := h1.room
  have H1 := Lib.hid (And.intro hm o1')
  clear h1 hm o1'
  go_wp2
  go_loopw [3] (fun i wr => ∃ k : Nat, k ≤ D.bk.length ∧ i = .int .i64 k ∧ (∃ cur lv, RefAt wr r g cap cur lv ⟨mixed (flushed D.bk) D.bk k, D.on, spent D.left⟩ F) ∧ Only F w wr) (fun i _ => D.bk.length - (intOf i).toNat)
  case atStart => exact ⟨0, Nat.zero_le _, rfl, ⟨cur, lv, H1.out.1⟩, H1.out.2⟩
  case round =>
    obtain ⟨k, hk, rfl, ⟨cur, lv, hr⟩, hor⟩ := hrel
    have t0 : wr.cell? ⟨r, 0, none⟩ = some (.slice (some ⟨g, 0, none⟩) D.bk.length cap) := by
      have := hr.top.1
      rw [mixed_length (flushed_length _)] at this
      exact this
    by_cases hlt : k < D.bk.length
    · obtain ⟨x, hx⟩ : ∃ x, D.bk[k]? = some x := ⟨_, List.getElem?_eq_getElem hlt⟩
      have hx' : (mixed (flushed D.bk) D.bk k)[k]? = some x := by rw [mixed_at (flushed_length _) hlt, hx]
      obtain ⟨a0, a1, -⟩ := hr.at hx'
      have hloose := hr.loose k x hx'
      have hkn : ((k : Int) < (D.bk.length : Int)) := by omega
      have hset : ∀ W, Below wr.heap.size wr W → RefAt W r g cap cur lv ⟨mixed (flushed D.bk) D.bk k, D.on, spent D.left⟩ F ∧ Only F w W := fun W hW => ⟨hr.kept (fun q hq => hW.block q (hr.fl q hq)) hW.size, hor.trans (Only.of_below hW F)⟩
      have hmx := mixed_set (flushed_length D.bk) (flushed_at hx)
      have H := Lib.hid (And.intro hset (And.intro hx' hmx))
      have fr' := hr.fr
      have fg' := hr.fg
      have hlt' := fun q hq => hr.fl q hq
      have hrow := hr.row
      clear hset hmx hx hx'
      obtain ⟨V, hV⟩ : ∃ V, V = lv k := ⟨_, rfl⟩
      rw [← hV] at a1 hloose
      have HV := Lib.hid hV
      clear hV
      obtain ⟨n, hn⟩ : ∃ n, n = D.bk.length := ⟨_, rfl⟩
      rw [← hn] at hk t0 hfew hroom hlt hkn
      have HN := Lib.hid hn
      clear hr hor
      obtain ⟨S0, hS0⟩ : ∃ S0, S0 = str x.sure := ⟨_, rfl⟩
      rw [← hS0] at a0
      have HC := Lib.hid (fun (W : World) (hW : KeepsR r g wr W) =>
        And.intro ((World.cell?_of_block (w := wr) (a := ⟨r, 0, none⟩) hW.1).trans t0) (And.intro ((World.cell?_of_block (w := wr) (a := ⟨g, k * 2, none⟩) hW.2).trans a0) (And.intro ((World.cell?_of_block (w := wr) (a := ⟨g, k * 2 + 1, none⟩) hW.2).trans a1) hlt)))
      have HS0 := Lib.hid hS0
      clear hS0
      rw [hn] at t0 hkn
      clear hn
      have hst : Bk.stands ⟨x.sure, x.loose⟩ = x.stands := rfl
      go_wp2_with fail
      rw [← HN.out]
      refine region_till 15 (KeepsR r g wr) (by kernel_rfl) ⟨rfl, rfl⟩ (fun hS => ?_)
      refine take_till (i := 0) (some 22) (ptr r) rfl rfl (by kernel_rfl) (by kernel_rfl) (by kernel_rfl) (by kernel_rfl) (by decide) (fun _ _ _ h => h) (by rfl) (fun W hW => ?_) hS ?_
      · have hc := HC.out W hW
        obtain ⟨hc1, hc2, hc3, hc4⟩ := hc
        clear hW
        go_simp
      simp only [Act.put, List.setIfInBounds_toArray, List.set_cons_zero, List.set_cons_succ]
      refine take_till (i := 1) (some 23) (ptr r) rfl rfl (by kernel_rfl) (by kernel_rfl) (by kernel_rfl) (by kernel_rfl) (by decide) (fun _ _ _ h => h) (by rfl) (fun W hW => ?_) hS ?_
      · have hc := HC.out W hW
        obtain ⟨hc1, hc2, hc3, hc4⟩ := hc
        clear hW
        go_simp
      simp only [Act.put, List.setIfInBounds_toArray, List.set_cons_zero, List.set_cons_succ]
      refine take_till (i := 2) (some 24) (ptr r) rfl rfl (by kernel_rfl) (by kernel_rfl) (by kernel_rfl) (by kernel_rfl) (by decide) (fun _ _ _ h => h) (by rfl) (fun W hW => ?_) hS ?_
      · have hc := HC.out W hW
        obtain ⟨hc1, hc2, hc3, hc4⟩ := hc
        clear hW
        go_simp
      simp only [Act.put, List.setIfInBounds_toArray, List.set_cons_zero, List.set_cons_succ]
      refine take_till (i := 3) (some 25) (.slice (some ⟨g, 0, none⟩) n cap) rfl rfl (by kernel_rfl) (by kernel_rfl) (by kernel_rfl) (by kernel_rfl) (by decide) (fun _ _ _ h => h) (by rfl) (fun W hW => ?_) hS ?_
      · have hc := HC.out W hW
        obtain ⟨hc1, hc2, hc3, hc4⟩ := hc
        clear hW
        go_simp
      simp only [Act.put, List.setIfInBounds_toArray, List.set_cons_zero, List.set_cons_succ]
      refine take_till (i := 4) (some 26) (.int .i64 (k : Int)) rfl rfl (by kernel_rfl) (by kernel_rfl) (by kernel_rfl) (by kernel_rfl) (by decide) (fun _ _ _ h => h) (by rfl) (fun W hW => ?_) hS ?_
      · have hc := HC.out W hW
        obtain ⟨hc1, hc2, hc3, hc4⟩ := hc
        clear hW
        go_simp
      simp only [Act.put, List.setIfInBounds_toArray, List.set_cons_zero, List.set_cons_succ]
      refine take_till (i := 5) (some 27) (ptr r) rfl rfl (by kernel_rfl) (by kernel_rfl) (by kernel_rfl) (by kernel_rfl) (by decide) (fun _ _ _ h => h) (by rfl) (fun W hW => ?_) hS ?_
      · have hc := HC.out W hW
        obtain ⟨hc1, hc2, hc3, hc4⟩ := hc
        clear hW
        go_simp
      simp only [Act.put, List.setIfInBounds_toArray, List.set_cons_zero, List.set_cons_succ]
      refine take_till (i := 6) (some 28) (ptr r) rfl rfl (by kernel_rfl) (by kernel_rfl) (by kernel_rfl) (by kernel_rfl) (by decide) (fun _ _ _ h => h) (by rfl) (fun W hW => ?_) hS ?_
      · have hc := HC.out W hW
        obtain ⟨hc1, hc2, hc3, hc4⟩ := hc
        clear hW
        go_simp
      simp only [Act.put, List.setIfInBounds_toArray, List.set_cons_zero, List.set_cons_succ]
      refine take_till (i := 7) (some 29) (ptr r) rfl rfl (by kernel_rfl) (by kernel_rfl) (by kernel_rfl) (by kernel_rfl) (by decide) (fun _ _ _ h => h) (by rfl) (fun W hW => ?_) hS ?_
      · have hc := HC.out W hW
        obtain ⟨hc1, hc2, hc3, hc4⟩ := hc
        clear hW
        go_simp
      simp only [Act.put, List.setIfInBounds_toArray, List.set_cons_zero, List.set_cons_succ]
      refine take_till (i := 8) (some 30) (.slice (some ⟨g, 0, none⟩) n cap) rfl rfl (by kernel_rfl) (by kernel_rfl) (by kernel_rfl) (by kernel_rfl) (by decide) (fun _ _ _ h => h) (by rfl) (fun W hW => ?_) hS ?_
      · have hc := HC.out W hW
        obtain ⟨hc1, hc2, hc3, hc4⟩ := hc
        clear hW
        go_simp
      simp only [Act.put, List.setIfInBounds_toArray, List.set_cons_zero, List.set_cons_succ]
      refine take_till (i := 9) (some 31) (.int .i64 (k : Int)) rfl rfl (by kernel_rfl) (by kernel_rfl) (by kernel_rfl) (by kernel_rfl) (by decide) (fun _ _ _ h => h) (by rfl) (fun W hW => ?_) hS ?_
      · have hc := HC.out W hW
        obtain ⟨hc1, hc2, hc3, hc4⟩ := hc
        clear hW
        go_simp
      simp only [Act.put, List.setIfInBounds_toArray, List.set_cons_zero, List.set_cons_succ]
      refine take_till (i := 10) (some 32) (.pointer (some ⟨g, k * 2, none⟩)) rfl rfl (by kernel_rfl) (by kernel_rfl) (by kernel_rfl) (by kernel_rfl) (by decide) (fun _ _ _ h => h) (by rfl) (fun W hW => ?_) hS ?_
      · have hc := HC.out W hW
        obtain ⟨hc1, hc2, hc3, hc4⟩ := hc
        clear hW
        go_simp
      simp only [Act.put, List.setIfInBounds_toArray, List.set_cons_zero, List.set_cons_succ]
      refine take_till (i := 11) (some 33) (.agg #[S0, V]) rfl rfl (by kernel_rfl) (by kernel_rfl) (by kernel_rfl) (by kernel_rfl) (by decide) (fun _ _ _ h => h) (by rfl) (fun W hW => ?_) hS ?_
      · have hc := HC.out W hW
        obtain ⟨hc1, hc2, hc3, hc4⟩ := hc
        clear hW
        go_simp
      simp only [Act.put, List.setIfInBounds_toArray, List.set_cons_zero, List.set_cons_succ]
      clear hS
      refine next_till 12 (by kernel_rfl) rfl (fun K hK => ?_)
      go_simp
      rw [HS0.out]
      refine (rstands_any (hloose.kept (w' := wr.drew) (fun _ _ => rfl) (fun _ h => h))).mono ?_
      rintro e w2 ⟨rfl, hb2⟩
      have hb3 : Below wr.heap.size wr w2 := ⟨hb2.os, hb2.tape, hb2.output, hb2.size, hb2.block⟩
      have hk3 : KeepsR r g wr w2 := ⟨hb3.block r (hlt' _ fr'), hb3.block g (hlt' _ fg')⟩
      refine hK.out _ _ (fun _ => hk3) ?_
      clear hK K
      have r3 := hrow.kept hk3.2
      have x1 : w2.cell? ⟨g, k * 2, none⟩ = some S0 := (HC.out w2 hk3).2.1
      have x2 : w2.cell? ⟨g, k * 2 + 1, none⟩ = some V := (HC.out w2 hk3).2.2.1
      have x3 := r3.frozen (k * 2)
      have x4 := r3.frozen (k * 2 + 1)
      refine next_till 13 (by kernel_rfl) rfl (fun K hK => ?_)
      go_simp
      refine hK.out _ _ (fun _ => hk3) ?_
      clear hK K
      refine next_till 14 (by kernel_rfl) rfl (fun K hK => ?_)
      go_simp
      refine hK.out _ _ (fun _ => hk3) ?_
      clear hK K
      refine next_till 15 (by kernel_rfl) rfl (fun K hK => ?_)
      go_simp
      refine hK.out _ _ (fun e => absurd rfl e) ?_
      clear hK K
      refine done_till (by kernel_rfl) ?_ _
      go_wp2
      go_roundw
      case rel =>
        obtain ⟨hr, hor⟩ := H.out.1 w2 hb3
        have h1 := hr.one H.out.2.1 x.stands
        have e1 : (mixed (flushed D.bk) D.bk k).set k ⟨x.stands, []⟩ = mixed (flushed D.bk) D.bk (k + 1) := H.out.2.2
        simp only [e1] at h1
        exact ⟨k + 1, by have := HN.out; omega, by go_num, ⟨_, _, h1.1⟩, hor.trans h1.2⟩
      case measure => have := HN.out; simp [intOf]; omega
    · have hkn : decide ((k : Int) < (D.bk.length : Int)) = false := by simp; omega
      have e : k = D.bk.length := by omega
      have e1 : mixed (flushed D.bk) D.bk k = flushed D.bk := by rw [e]; exact mixed_all (flushed_length _)
      rw [e1] at hr
      have HR := Lib.hid (And.intro hr hor)
      clear hr hor e e1
      go_wp2
      go_ret
      exact ⟨rfl, ⟨_, _, _, _, HR.out.1⟩, HR.out.2⟩
end
end Go.Proofs.Ytcpapdpnnlnemaa
namespace Go.Proofs.Ytcpapdpnnlnemaa
open Go.RowKit Go.Maps

theorem cnt_succ {l : List Bk} {k : Nat} {x : Bk} (h : l[k]? = some x) : cnt l (k + 1) = cnt l k + if x.loose = [] then 0 else 1 := by
  unfold cnt
  rw [List.take_add_one, h, List.countP_append]
  cases hl : x.loose <;> simp [hl]
theorem cnt_le (l : List Bk) (k : Nat) : cnt l k ≤ k := by
  unfold cnt
  exact Nat.le_trans List.countP_le_length (by simp; omega)

section
variable {w : World} {r : Nat} {D : Dv} {F : Nat → Prop}

theorem rcomes_on (h : Ref w r D F) (ho : D.on = true) {v : Value} {l : List Int} (hv : Iv w v l) : Calls Try.prog 18 #[ptr r, v] w fun e w' => e = .returned (err 3) ∧ w = w' := by
  obtain ⟨a, cap, rfl⟩ := hv.shape
  obtain ⟨g, cap, cur, lv, h⟩ := h
  obtain ⟨_, c1, c2, _, f1, f2⟩ := h.top
  rw [ho] at c2
  clear h ho hv
  go_enter Try.func18, Try.ntmps18
  go_wp2
  go_ret
  exact ⟨rfl, rfl⟩

/-- What a round of Comes leaves. -/
def ComesR (w : World) (r g cap : Nat) (D : Dv) (F : Nat → Prop) (v : Value) (l : List Int) (k : Nat) (wr : World) : Prop :=
  (∃ cur lv, RefAt wr r g cap cur lv ⟨mixed (comes D.bk l) D.bk k, D.on, D.left⟩ F) ∧ Only F w wr

theorem ComesR.skip {r g cap : Nat} {D : Dv} {v : Value} {l : List Int} {k : Nat} {wr : World} {x : Bk} (h : ComesR w r g cap D F v l k wr) (hx : D.bk[k]? = some x) (hl : x.loose = []) : ComesR w r g cap D F v l (k + 1) wr := by
  have hlt := (List.getElem?_eq_some_iff.1 hx).1
  have h1 := mixed_set (comes_length D.bk l) (comes_at D.bk l k x hx)
  have e : (⟨x.sure, []⟩ : Bk) = x := by rw [← hl]
  rw [if_pos hl, e] at h1
  have h2 := mixed_at (comes_length D.bk l) hlt
  have h3 : (mixed (comes D.bk l) D.bk k).set k x = mixed (comes D.bk l) D.bk k := by
    apply List.ext_getElem?
    intro j
    by_cases hj : j = k
    · subst hj
      rw [List.getElem?_set_self (by rw [mixed_length (comes_length D.bk l)]; exact hlt), h2, hx]
    · rw [List.getElem?_set_ne (by omega)]
  rw [h3] at h1
  obtain ⟨⟨cur, lv, hr⟩, ho⟩ := h
  rw [h1] at hr
  exact ⟨⟨cur, lv, hr⟩, ho⟩

theorem ComesR.turn {r g cap : Nat} {D : Dv} {v : Value} {l : List Int} {k : Nat} {wr : World} {x : Bk} (h : ComesR w r g cap D F v l k wr) (hx : D.bk[k]? = some x) (hl : x.loose ≠ []) {s : Bytes} (hs : x.picked (pickAt l (cnt D.bk k) x.loose.length) = s) :
    ComesR w r g cap D F v l (k + 1) ((wr.setCell ⟨g, k * 2, none⟩ (str s)).setCell ⟨g, k * 2 + 1, none⟩ nilSl) := by
  have hlt := (List.getElem?_eq_some_iff.1 hx).1
  have h1 := mixed_set (comes_length D.bk l) (comes_at D.bk l k x hx)
  rw [if_neg hl, hs] at h1
  have h2 := mixed_at (comes_length D.bk l) hlt
  obtain ⟨⟨cur, lv, hr⟩, ho⟩ := h
  have h3 := hr.one (h2.trans hx) s
  simp only [h1] at h3
  exact ⟨⟨_, _, h3.1⟩, ho.trans h3.2⟩

set_option maxRecDepth 100000 in
set_option maxHeartbeats 1000000 in
theorem rcomes_ok (h : Ref w r D F) (ho : D.on = false) (hsmall : ∀ (k : Nat) (x : Bk), D.bk[k]? = some x → x.loose.length < 4294967296) {v : Value} {l : List Int} (hv : Iv w v l) (hoff : l ≠ [] → ∀ q, v.ownBlock = some q → ¬ F q) :
    Calls Try.prog 18 #[ptr r, v] w fun e w' => e = .returned (err 0) ∧ Ref w' r ⟨comes D.bk l, true, -1⟩ F ∧ Only F w w' := by
  have fr := h.fr
  obtain ⟨g, cap, cur, lv, h⟩ := h
  have c2 := h.top.2.2.1
  rw [ho] at c2
  have hm : RefAt w r g cap cur lv ⟨mixed (comes D.bk l) D.bk 0, D.on, D.left⟩ F := by rw [mixed_zero]; exact h
  have hfew : D.bk.length ≤ 4096 := h.few
  have hroom : D.bk.length ≤ cap := h.room
  have H1 := Lib.hid (show ComesR w r g cap D F v l 0 w from ⟨⟨cur, lv, hm⟩, Only.refl _ _⟩)
  have HS := Lib.hid (And.intro hsmall hoff)
  obtain ⟨a, pc, rfl⟩ := hv.shape
  have hlen : l.length ≤ 9223372036854775807 := by
    obtain ⟨_, _, _, h1, _⟩ := hv
    exact h1
  have HV := Lib.hid hv
  clear h ho hm hsmall hoff hv
  go_enter Try.func18, Try.ntmps18
  go_wp2
  go_loopw [5, 6, 7, 8, 9] (fun nx i _ _ _ wr => ∃ k : Nat, k ≤ D.bk.length ∧ nx = .int .i64 (cnt D.bk k : Nat) ∧ i = .int .i64 k ∧ ComesR w r g cap D F (.slice a l.length pc) l k wr) (fun _ i _ _ _ _ => D.bk.length - (intOf i).toNat)
  case atStart => exact ⟨0, Nat.zero_le _, rfl, rfl, H1.out⟩
  case round =>
    obtain ⟨k, hk, rfl, rfl, hR⟩ := hrel
    have hR0 := hR
    obtain ⟨⟨cur, lv, hr⟩, hor⟩ := hR
    have t0 : wr.cell? ⟨r, 0, none⟩ = some (.slice (some ⟨g, 0, none⟩) D.bk.length cap) := by
      have := hr.top.1
      rw [mixed_length (comes_length _ _)] at this
      exact this
    by_cases hlt : k < D.bk.length
    · obtain ⟨x, hx⟩ : ∃ x, D.bk[k]? = some x := ⟨_, List.getElem?_eq_getElem hlt⟩
      have hx' : (mixed (comes D.bk l) D.bk k)[k]? = some x := by rw [mixed_at (comes_length _ _) hlt, hx]
      obtain ⟨a0, a1, x3, x4⟩ := hr.at hx'
      have hloose := hr.loose k x hx'
      have hkn : ((k : Int) < (D.bk.length : Int)) := by omega
      have hcs := cnt_succ hx
      obtain ⟨la, lc, hsh⟩ := hloose.shape
      rw [hsh] at a1
      have hlim := HS.out.1 k x hx
      have hcl := cnt_le D.bk k
      by_cases hl0 : x.loose = []
      · rw [if_pos hl0, Nat.add_zero] at hcs
        have h0 : x.loose.length = 0 := by rw [hl0]; rfl
        rw [h0] at a1
        have HE := Lib.hid (And.intro (hR0.skip hx hl0) hcs)
        generalize hS0 : str x.sure = S0 at *
        generalize hcc : cnt D.bk k = cc at *
        have HC := Lib.hid hcc
        clear hR0 hr hx hx' hloose hcs hl0 h0 hsh hor hS0 hcc
        go_wp2
        go_roundw
        case rel => exact ⟨k + 1, by omega, by rw [HE.out.2]; rfl, by go_num, HE.out.1⟩
        case measure => simp [intOf]; omega
      · rw [if_neg hl0] at hcs
        obtain ⟨m, hm⟩ : ∃ m, x.loose.length = m := ⟨_, rfl⟩
        have hm0 : 0 < m := by rw [← hm]; exact List.length_pos_iff.2 hl0
        rw [hm] at a1 hlim
        have hmn : (((m : Int)) == 0) = false := by rw [beq_eq_false_iff_ne]; omega
        have hturn := fun s hs => hR0.turn hx hl0 (s := s) hs
        have hcells := hloose.some (by rw [hm]; exact hm0)
        obtain ⟨lg, lc', hv2, hlcell⟩ := hcells
        have hvv := hsh.symm.trans hv2
        rw [hm] at hvv
        simp only [Value.slice.injEq, true_and] at hvv
        obtain ⟨rfl, rfl⟩ := hvv
        have hPle : pickAt l (cnt D.bk k) x.loose.length ≤ m := by rw [← hm]; exact pickN_le _ _
        have hpick : x.picked (pickAt l (cnt D.bk k) x.loose.length) = if pickAt l (cnt D.bk k) x.loose.length = 0 then x.sure else (x.loose[pickAt l (cnt D.bk k) x.loose.length - 1]?).getD x.sure := rfl
        by_cases hc : cnt D.bk k < l.length
        · obtain ⟨p, hp⟩ : ∃ p, l[cnt D.bk k]? = some p := ⟨_, List.getElem?_eq_getElem hc⟩
          have hiv : Iv wr (.slice a l.length pc) l := HV.out.kept fun q hq hl _ => hor.block q (by assumption) (HS.out.2 hl q hq)
          obtain ⟨pg, po, pc', e, hcell, hlo, hhi⟩ := hiv.open hp
          simp only [Value.slice.injEq, true_and] at e
          obtain ⟨rfl, rfl⟩ := e
          have hpk := (pickN_int p m).symm
          have hPe : pickAt l (cnt D.bk k) x.loose.length = pickN p m := by unfold pickAt; rw [hp, hm]; rfl
          rw [hPe] at hPle hpick
          rw [hPe] at hturn
          generalize pickN p m = P at *
          have hcl' : ((cnt D.bk k : Int) < (l.length : Int)) := by omega
          rcases P with _ | Q
          · rw [if_pos rfl] at hpick
            have HE := Lib.hid (And.intro (hturn _ hpick) hcs)
            generalize hcc : cnt D.bk k = cc at *
            have HC := Lib.hid (And.intro hcc (And.intro hm hsh))
            clear hR0 hr hx hx' hloose hcs hl0 hm hsh hor hcc hpick hPe hlcell hturn hp hiv hv2
            go_wp2
            go_roundw
            case rel => exact ⟨k + 1, by omega, by rw [HE.out.2]; go_num, by go_num, HE.out.1⟩
            case measure => simp [intOf]; omega
          · obtain ⟨y, hy⟩ : ∃ y, x.loose[Q]? = some y := ⟨_, List.getElem?_eq_getElem (by omega)⟩
            have hlc := hlcell Q y hy
            rw [if_neg (by omega), Nat.add_sub_cancel, hy, Option.getD_some] at hpick
            have hQm : ((Q : Int) < (m : Int)) := by omega
            have hpk' : max p 0 % ((m : Int) + 1) = (Q : Int) + 1 := by rw [hpk]; omega
            have HE := Lib.hid (And.intro (hturn _ hpick) hcs)
            generalize hcc : cnt D.bk k = cc at *
            have HC := Lib.hid (And.intro hcc (And.intro hm hsh))
            clear hR0 hr hx hx' hloose hcs hl0 hm hsh hor hcc hpick hPe hlcell hturn hp hiv hv2 hpk
            go_wp2
            go_roundw
            case rel => exact ⟨k + 1, by omega, by rw [HE.out.2]; go_num, by go_num, HE.out.1⟩
            case measure => simp [intOf]; omega
        · have hPe : pickAt l (cnt D.bk k) x.loose.length = 0 := by
            unfold pickAt
            rw [List.getElem?_eq_none (by omega)]
            exact pickN_zero _
          rw [hPe] at hpick
          rw [hPe] at hturn
          rw [if_pos rfl] at hpick
          have hcl' : decide ((cnt D.bk k : Int) < (l.length : Int)) = false := by simp; omega
          have HE := Lib.hid (And.intro (hturn _ hpick) hcs)
          generalize hcc : cnt D.bk k = cc at *
          have HC := Lib.hid (And.intro hcc (And.intro hm hsh))
          clear hR0 hr hx hx' hloose hcs hl0 hm hsh hor hcc hpick hPe hPle hlcell hturn hv2
          go_wp2
          go_roundw
          case rel => exact ⟨k + 1, by omega, by rw [HE.out.2]; go_num, by go_num, HE.out.1⟩
          case measure => simp [intOf]; omega
    · have e : k = D.bk.length := by omega
      have e1 : mixed (comes D.bk l) D.bk k = comes D.bk l := by rw [e]; exact mixed_all (comes_length _ _)
      rw [e1] at hr
      have q2 := (show Ref wr r ⟨comes D.bk l, D.on, D.left⟩ F from ⟨_, _, _, _, hr⟩)
      have z2 := ref_cell2 q2 true
      have z3 := ref_cell1 z2.1 (-1) (by omega) (by omega)
      obtain ⟨_, k1, k2, _, g1, g2⟩ := hr.top
      have hh := hr.head.set 2 (.bool true)
      have m1 := hh.cell 1
      have n1 := hh.frozen 1
      have HR := Lib.hid (And.intro z3.1 ((hor.trans (z2.2.mono (fun q _ e => e ▸ fr))).trans (z3.2.mono (fun q _ e => e ▸ fr))))
      clear hR0 hr hor e e1 q2 z2 z3 hh
      generalize cnt D.bk k = cc at *
      go_wp2
      go_ret
      exact ⟨rfl, HR.out⟩
end
end Go.Proofs.Ytcpapdpnnlnemaa
namespace Go.Proofs.Ytcpapdpnnlnemaa
open Go.RowKit Go.Maps

def RSteps (w : World) (r : Nat) (F : Nat → Prop) (c : Int) (D' : Dv) (e : Ending) (w' : World) : Prop := e = .returned (err c) ∧ Ref w' r D' (Grow F w w') ∧ Only F w w'

section
variable {w w' : World} {b r : Nat} {D D' : Dv} {F : Nat → Prop}
theorem r_grow (h0 : Ref w r D F) (h : Ref w' r D' F) (ho : Only F w w') : Ref w' r D' (Grow F w w') ∧ Only F w w' :=
  ⟨h.widen (fun _ hq => .inl hq) (grow_lt h0.fl ho.size), ho⟩
theorem r_grow' (h0 : Ref w r D F) (h : Ref w' r D' F) (ho : Only (· = r) w w') : Ref w' r D' (Grow F w w') ∧ Only F w w' := r_grow h0 h (ho.mono fun q _ e => e ▸ h0.fr)
theorem r_same (h0 : Ref w r D F) : Ref w r D (Grow F w w) ∧ Only F w w := r_grow h0 h0 (Only.refl _ _)

theorem rwrite_any (h : Ref w r D F) (hs : Small D) (k : Int) {v : Value} {l : Bytes} (hv : Bs w v l) (hoff : ∀ q, v.ownBlock = some q → ¬ F q) :
    Calls Try.prog 21 #[ptr r, .int .i64 k, v] w (RSteps w r F (wcode D k l) (wdev D k l)) := by
  unfold wcode wdev
  by_cases ho : D.on = false
  · rw [if_pos ho, if_pos ho]
    refine (rwrite_off h ho k v).mono ?_
    rintro e w' ⟨rfl, rfl⟩
    exact ⟨rfl, r_same h⟩
  have ho' : D.on = true := by simpa using ho
  rw [if_neg ho, if_neg ho]
  by_cases hn : noSuch D k l
  · rw [if_pos hn, if_pos hn]
    by_cases hk : k < 0 ∨ (D.bk.length : Int) ≤ k
    · refine (rwrite_no h ho' k hk v).mono ?_
      rintro e w' ⟨rfl, rfl⟩
      exact ⟨rfl, r_same h⟩
    · obtain ⟨n, rfl⟩ : ∃ n : Nat, k = n := ⟨k.toNat, by omega⟩
      have hl : l.length ≠ 512 := by
        rcases hn with h1 | h1 | h1
        · exact absurd (.inl h1) hk
        · exact absurd (.inr h1) hk
        · exact h1
      refine (rwrite_short h ho' n (by omega) hv hl).mono ?_
      rintro e w' ⟨rfl, rfl⟩
      exact ⟨rfl, r_same h⟩
  rw [if_neg hn, if_neg hn]
  obtain ⟨n, x, rfl, hx, hl⟩ := nosuch_not hn
  have hk := (List.getElem?_eq_some_iff.1 hx).1
  by_cases hz : D.left = 0
  · rw [if_pos hz, if_pos hz]
    refine (rwrite_dies h ho' hz n hk hv hl).mono ?_
    rintro e w' ⟨rfl, hd, hon⟩
    exact ⟨rfl, r_grow' h hd hon⟩
  · rw [if_neg hz, if_neg hz]
    exact rwrite_ok h ho' hz hx (hs n x hx) hv hl hoff

theorem rflush_any (h : Ref w r D F) : Calls Try.prog 33 #[ptr r] w (RSteps w r F (fcode D) (fdev D)) := by
  unfold fcode fdev
  by_cases ho : D.on = false
  · rw [if_pos ho, if_pos ho]
    refine (rflush_off h ho).mono ?_
    rintro e w' ⟨rfl, rfl⟩
    exact ⟨rfl, r_same h⟩
  have ho' : D.on = true := by simpa using ho
  rw [if_neg ho, if_neg ho]
  by_cases hz : D.left = 0
  · rw [if_pos hz, if_pos hz]
    refine (rflush_dies h ho' hz).mono ?_
    rintro e w' ⟨rfl, hd, hon⟩
    exact ⟨rfl, r_grow' h hd hon⟩
  · rw [if_neg hz, if_neg hz]
    refine (rflush_ok h ho' hz).mono ?_
    rintro e w' ⟨rfl, hd, hon⟩
    exact ⟨rfl, r_grow h hd hon⟩

theorem rarm_any (h : Ref w r D F) (n : Int) (hn : n ≤ 9223372036854775807) : Calls Try.prog 14 #[ptr r, .int .i64 n] w (RSteps w r F (acode D) (adev D n)) := by
  unfold acode adev
  by_cases ho : D.on = false
  · rw [if_pos ho, if_pos ho]
    refine (rarm_off h ho n).mono ?_
    rintro e w' ⟨rfl, rfl⟩
    exact ⟨rfl, r_same h⟩
  · have ho' : D.on = true := by simpa using ho
    rw [if_neg ho, if_neg ho]
    refine (rarm_on h ho' n hn).mono ?_
    rintro e w' ⟨rfl, hd, hon⟩
    exact ⟨rfl, r_grow' h hd hon⟩
theorem roff_any (h : Ref w r D F) : Calls Try.prog 16 #[ptr r] w (RSteps w r F (ocode D) (odev D)) := by
  unfold ocode odev
  by_cases ho : D.on = false
  · rw [if_pos ho, if_pos ho]
    refine (roff_off h ho).mono ?_
    rintro e w' ⟨rfl, rfl⟩
    exact ⟨rfl, r_same h⟩
  · have ho' : D.on = true := by simpa using ho
    rw [if_neg ho, if_neg ho]
    refine (roff_on h ho').mono ?_
    rintro e w' ⟨rfl, hd, hon⟩
    exact ⟨rfl, r_grow' h hd hon⟩
theorem ron_any (h : Ref w r D F) (hs : Small D) {v : Value} {l : List Int} (hv : Iv w v l) (hoff : l ≠ [] → ∀ q, v.ownBlock = some q → ¬ F q) : Calls Try.prog 18 #[ptr r, v] w (RSteps w r F (ncode D) (ndev D l)) := by
  unfold ncode ndev
  by_cases ho : D.on = false
  · rw [if_pos ho, if_pos ho]
    refine (rcomes_ok h ho hs hv hoff).mono ?_
    rintro e w' ⟨rfl, hd, hon⟩
    exact ⟨rfl, r_grow h hd hon⟩
  · have ho' : D.on = true := by simpa using ho
    rw [if_neg ho, if_neg ho]
    refine (rcomes_on h ho' hv).mono ?_
    rintro e w' ⟨rfl, rfl⟩
    exact ⟨rfl, r_same h⟩
end

/-! ### both -/
/-- The device has D, the document's device E; each lies in its own memory, laid since w0. -/
structure Two (w0 w : World) (b r : Nat) (D E : Dv) (F G : Nat → Prop) : Prop where
  dev : Dev w b D F
  ref : Ref w r E G
  fo : ∀ q, F q → w0.heap.size ≤ q
  go : ∀ q, G q → w0.heap.size ≤ q
  apart : ∀ q, F q → ¬ G q
  under : Below w0.heap.size w0 w

section
variable {w0 w w' : World} {b r : Nat} {D E D' E' : Dv} {F G : Nat → Prop}

theorem Two.dstep (h : Two w0 w b r D E F G) (hd : Dev w' b D' (Grow F w w')) (ho : Only F w w') : Two w0 w' b r D' E (Grow F w w') G where
  dev := hd
  ref := h.ref.other ho fun q hq hf => h.apart q hf hq
  fo q hq := hq.elim (h.fo q) fun hq => by have := h.under.size; omega
  go := h.go
  apart q hq hg := hq.elim (fun hf => h.apart q hf hg) fun hq => by have := h.ref.fl q hg; omega
  under := h.under.trans (ho.below h.under.size h.fo)
theorem Two.rstep (h : Two w0 w b r D E F G) (hd : Ref w' r E' (Grow G w w')) (ho : Only G w w') : Two w0 w' b r D E' F (Grow G w w') where
  dev := h.dev.other ho fun q hq hg => h.apart q hq hg
  ref := hd
  fo := h.fo
  go q hq := hq.elim (h.go q) fun hq => by have := h.under.size; omega
  apart q hf hq := hq.elim (fun hg => h.apart q hf hg) fun hq => by have := h.dev.fl q hf; omega
  under := h.under.trans (ho.below h.under.size h.go)
theorem Two.later (h : Two w0 w b r D E F G) (hb : Below w.heap.size w w') : Two w0 w' b r D E F G where
  dev := h.dev.below hb
  ref := h.ref.below hb
  fo := h.fo
  go := h.go
  apart := h.apart
  under := h.under.trans (hb.mono h.under.size)
/-- A block that was laid since, and is of neither. -/
theorem Two.other {S : Nat → Prop} (h : Two w0 w b r D E F G) (ho : Only S w w') (hS : ∀ q, S q → w0.heap.size ≤ q ∧ ¬ F q ∧ ¬ G q) : Two w0 w' b r D E F G where
  dev := h.dev.other ho fun q hq hs => (hS q hs).2.1 hq
  ref := h.ref.other ho fun q hq hs => (hS q hs).2.2 hq
  fo := h.fo
  go := h.go
  apart := h.apart
  under := h.under.trans (ho.below h.under.size fun q hs => (hS q hs).1)
end

end Go.Proofs.Ytcpapdpnnlnemaa
