/- New of the document's device; no condition. -/
import Derived.Test.YtcgecjedgbmmkaaRefRead
import Derived.Test.YtcgecjedgbmmkaaDevNew
namespace Go.Proofs.Ytcgecjedgbmmkaa
open Go.RowKit Go.Maps

theorem rnew_no (n : Int) (w : World) (hn : n < 1 ∨ 4096 < n) : Calls Try.prog 10 #[.int .i64 n] w fun e w' => e = .returned (.tuple #[.pointer none, err 1]) ∧ w = w' := by
  by_cases h0 : n < 1
  · clear hn
    go_enter Try.func10, Try.ntmps10
    go_wp2
    go_ret2
    exact ⟨rfl, rfl⟩
  · have h1 : 4096 < n := by omega
    have hd : decide (n < 1) = false := by simp; omega
    clear hn h0
    go_enter Try.func10, Try.ntmps10
    go_wp2
    go_ret2
    exact ⟨rfl, rfl⟩

theorem bk_info : (Try.prog.info? 61).map (fun i => (i.zero, i.size, i.bytes)) = some (some (.agg #[.string ⟨#[]⟩, nilSl]), 2, 40) := by kernel_rfl

/-- The cells of k blocks of noughts. -/
def none2 : Nat → List Value
  | 0 => []
  | k + 1 => none2 k ++ [str noughts, nilSl]
theorem none2_length (k : Nat) : (none2 k).length = k * 2 := by
  induction k with
  | zero => rfl
  | succ k ih => rw [none2, List.length_append, ih]; simp; omega
theorem none2_at (k j : Nat) (h : j < k) : (none2 k)[j * 2]? = some (str noughts) ∧ (none2 k)[j * 2 + 1]? = some nilSl := by
  induction k with
  | zero => omega
  | succ k ih =>
    rw [none2]
    by_cases hj : j < k
    · rw [List.getElem?_append_left (by rw [none2_length]; omega), List.getElem?_append_left (by rw [none2_length]; omega)]
      exact ih hj
    · obtain rfl : j = k := by omega
      rw [List.getElem?_append_right (by rw [none2_length]; omega), List.getElem?_append_right (by rw [none2_length]; omega), none2_length]
      simp

/-- A new device is answered. -/
def RNews (w : World) (n : Nat) (e : Ending) (w' : World) : Prop :=
  ∃ r, e = .returned (.tuple #[ptr r, err 0]) ∧ Ref w' r (fresh n) (fun q => w.heap.size ≤ q ∧ q < w'.heap.size) ∧ Below w.heap.size w w'

set_option maxRecDepth 100000 in
theorem rnew_ok (n : Nat) (w : World) (h1 : 1 ≤ n) (h2 : n ≤ 4096) : Calls Try.prog 10 #[.int .i64 (n : Int)] w (RNews w n) := by
  obtain ⟨i0, hi, hz0, hz1, hz2⟩ := info_parts bk_info
  have t1 : decide ((n : Int) < 1) = false := by simp; omega
  have t2 : decide ((4096 : Int) < (n : Int)) = false := by simp; omega
  obtain ⟨w1, hmk, o1, g1⟩ := run_zeros_bs bt (w.alloc (.cells #[nilSl, .int .i64 (-1), .bool true] 38)) (w.heap.size + 1) .i64 .i64 512 (by decide) (by simp)
  rw [show ((512 : Nat) : Int) = 512 from rfl] at hmk
  have hz : List.replicate 512 (0 : UInt8) = noughts := rfl
  rw [hz] at o1
  have hstr := run_string_bs bt (d := 9) Try.underlying9 w1 o1.bs
  simp only [World.size_alloc] at hmk hstr
  have hl5 : noughts.length = 512 := List.length_replicate
  have hc0 := Cel.new w #[nilSl, .int .i64 (-1), .bool true] 38
  have b0 : Below w.heap.size w (w.alloc (.cells #[nilSl, .int .i64 (-1), .bool true] 38)) := (Below.refl _ _).alloc (Nat.le_refl _) _
  have b1 : Below w.heap.size w w1 := b0.grown g1 (by simp) (fun _ h => by cases h)
  have hc1 : Cel w1 w.heap.size [nilSl, .int .i64 (-1), .bool true] 38 := hc0.kept (g1.block _ (by simp) (fun e => by cases e))
  have H1 := Lib.hid (And.intro hc1 (And.intro b1 (And.intro h1 h2)))
  have HS := Lib.hid hl5
  clear hc0 b0 hc1 b1 o1 g1 hl5 hz h1 h2
  go_enter Try.func10, Try.ntmps10
  go_wp2
  go_loopw [6] (fun i wr => ∃ k : Nat, k ≤ n ∧ i = .int .i64 k ∧ (∃ v, Cel wr w.heap.size [v, .int .i64 (-1), .bool true] 38 ∧ wr.ownsRow (w.heap.size + 1) 61 2 v k (none2 k)) ∧ Below w.heap.size w wr) (fun i _ => n - (intOf i).toNat)
  case atStart => exact ⟨0, Nat.zero_le _, rfl, ⟨nilSl, H1.out.1, World.ownsRow_nil _ _ _ _⟩, H1.out.2.1⟩
  case round =>
    obtain ⟨k, hk, rfl, ⟨v, hc, hown⟩, hb⟩ := hrel
    have c0 : wr.cell? ⟨w.heap.size, 0, none⟩ = some v := by rw [hc.cell]; rfl
    have hn4 := H1.out.2.2.2
    have hbase : w.heap.size + 1 ≤ wr.heap.size := hc.lt
    by_cases hlt : k < n
    · have hkn : ((k : Int) < (n : Int)) := by omega
      go_wp2_with (at_builtin; refine wpList_append_own _ rfl (.tmp 26) (.tmp 29) 36 rfl (w.heap.size + 1) 61 i0 (.agg #[.string ⟨#[]⟩, nilSl]) 2 40 Try.underlying36 hi hz0 hz1 hz2 rfl (by decide) v k (none2 k) rfl (hown.alloc _) ⟨wr.heap.size, 0, none⟩ 1 1 [str noughts, nilSl] rfl rfl ?c1 ?c2 ?c3 ?c4 ?c5 ?_)
      case c1 =>
        intro j u hj
        rw [Addr.add_lit, Nat.zero_add, (Cel.new wr #[str noughts, nilSl] 61).cell]
        exact hj
      case c2 => intro u hu; simp at hu; rcases hu with rfl | rfl <;> rfl
      case c3 => unfold maxLen; omega
      case c4 => omega
      case c5 => simp; omega
      intro v' w2 hown' hgrow _
      have hne : v.ownBlock ≠ some w.heap.size := fun e => by
        have := (hown.lt _ e).1
        omega
      have hc2 : Cel w2 w.heap.size [v, .int .i64 (-1), .bool true] 38 := (hc.alloc _).kept (hgrow.block _ (by simp; omega) (fun e => hne e.symm))
      have hb2 : Below w.heap.size w w2 := (hb.alloc hb.size _).grown hgrow (by simp; omega) (fun q e => by have := (hown.lt q e).1; omega)
      obtain ⟨g', cap', rfl⟩ : ∃ g' cap', v' = .slice (some ⟨g', 0, none⟩) (k + 1) cap' := by
        rcases hown'.2 with ⟨_, h0⟩ | ⟨g', cap', cur, e, _⟩
        · omega
        · exact ⟨g', cap', e⟩
      have hset := hc2.set 0 (.slice (some ⟨g', 0, none⟩) (k + 1) cap')
      have hcell2 : w2.cell? ⟨w.heap.size, 0, none⟩ = some v := by rw [hc2.cell]; rfl
      have hfr2 := hc2.frozen 0
      have hown2 : (w2.setCell ⟨w.heap.size, 0, none⟩ (.slice (some ⟨g', 0, none⟩) (k + 1) cap')).ownsRow (w.heap.size + 1) 61 2 (.slice (some ⟨g', 0, none⟩) (k + 1) cap') (k + 1) (none2 (k + 1)) := by
        refine ⟨hown'.1, ?_⟩
        rcases hown'.2 with ⟨_, h0⟩ | ⟨g2, cap2, cur, e, e1, e2, e3⟩
        · omega
        · exact .inr ⟨g2, cap2, cur, e, e1, (Below.heap_setCell _ _ _ _ (fun e => by simp at e; omega)).trans e2, e3⟩
      have HR := Lib.hid (And.intro hset (And.intro hown2 (hb2.setCell (Nat.le_refl _) (p := ⟨w.heap.size, 0, none⟩) (.slice (some ⟨g', 0, none⟩) (k + 1) cap'))))
      clear hown' hgrow hown hc2 hb2 hset hown2 hc c0
      go_wp2
      go_roundw
      case rel => exact ⟨k + 1, by omega, by go_num, ⟨_, HR.out.1, HR.out.2.1⟩, HR.out.2.2⟩
      case measure => simp [intOf]; omega
    · obtain rfl : k = n := by omega
      have HR := Lib.hid (And.intro hc (And.intro hown hb))
      clear hc hown hb
      go_wp2
      go_ret2
      refine ⟨w.heap.size, rfl, ?_, HR.out.2.2⟩
      obtain ⟨hc, hown, hb⟩ := HR.out
      have hlen : (fresh k).bk.length = k := List.length_replicate
      rcases hown.2 with ⟨_, h0⟩ | ⟨g2, cap2, cur, rfl, e1, e2, e3, e4, e5, e6⟩
      · have := H1.out.2.2.1
        omega
      · refine ⟨g2, cap2, cur.toList, fun _ => nilSl, {
          head := by rw [hlen]; exact hc
          row := by unfold Cel; simpa using e2
          cells := fun j x hx => by
            obtain ⟨rfl, hj⟩ := fresh_get hx
            have := none2_at k j hj
            rw [← e6, List.getElem?_take_of_lt (by omega), List.getElem?_take_of_lt (by omega)] at this
            exact this
          loose := fun j x hx => by
            obtain ⟨rfl, hj⟩ := fresh_get hx
            exact RowS.nil _ _
          apart := fun _ _ _ _ _ => .inl rfl
          room := by rw [hlen]; exact e3
          fr := ⟨Nat.le_refl _, by omega⟩
          fg := ⟨by omega, (Array.getElem?_eq_some_iff.1 e2).1⟩
          fl := fun q hq => hq.2
          pos := by rw [hlen]; exact H1.out.2.2.1
          few := by rw [hlen]; omega
          low := by show (-1 : Int) ≤ -1; omega
          high := by show (-1 : Int) ≤ _; omega }⟩
end Go.Proofs.Ytcgecjedgbmmkaa
