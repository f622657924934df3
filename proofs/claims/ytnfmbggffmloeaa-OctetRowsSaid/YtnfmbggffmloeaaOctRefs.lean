/- Contracts of the document's answers for layer 1 and of the statements' small helpers: each answers as the chapter says and writes nothing that was there; conditions: the lengths that each contract names. -/
import Derived.Test.YtnfmbggffmloeaaOctTake
import Derived.Deep.QuietTactic
import Derived.BigQuiet
namespace Go.Proofs.Ytnfmbggffmloeaa
open Go.RowKit

set_option maxHeartbeats 400000 in
theorem refSize_any (n : Int) (w : World) :
    Calls Try.prog 28 #[.int .i64 n] w fun e w' => e = .returned (.bool (mayB n)) ∧ w = w' := by
  by_cases a1 : n = 1
  · subst a1
    go_enter Try.func28, Try.ntmps28
    go_wp2
    go_ret
    exact ⟨rfl, rfl⟩
  by_cases a2 : n = 2
  · subst a2
    go_enter Try.func28, Try.ntmps28
    go_wp2
    go_ret
    exact ⟨rfl, rfl⟩
  by_cases a3 : n = 4
  · subst a3
    go_enter Try.func28, Try.ntmps28
    go_wp2
    go_ret
    exact ⟨rfl, rfl⟩
  by_cases a4 : n = 8
  · subst a4
    go_enter Try.func28, Try.ntmps28
    go_wp2
    go_ret
    exact ⟨rfl, rfl⟩
  have b1 := beq_eq_false_iff_ne.2 a1
  have b2 := beq_eq_false_iff_ne.2 a2
  have b3 := beq_eq_false_iff_ne.2 a3
  have b4 := beq_eq_false_iff_ne.2 a4
  have hm : mayB n = false := by simp [mayB, a1, a2, a3, a4]
  rw [hm]
  clear hm a1 a2 a3 a4
  go_enter Try.func28, Try.ntmps28
  go_wp2
  go_ret
  exact ⟨rfl, rfl⟩

theorem ow_empty (w : World) : Ow (w.alloc (.cells #[] 5)) w.heap.size 5 (.slice (some ⟨w.heap.size, 0, none⟩) 0 0) [] :=
  Ow.lit w w.heap.size 5 [] (Nat.le_refl _) (Nat.zero_le _)

set_option maxHeartbeats 400000 in
theorem copied_any {b : Value} {l : List UInt8} (w : World) (hb : Bs w b l) (hl : l.length ≤ 1073741824) :
    Calls Try.prog 13 #[b] w (Gives w l) := by
  have hs : ([] : List UInt8).length + l.length ≤ 140737488355328 := by simp; omega
  have hz : w.heap.size ≤ (w.alloc (.cells #[] 5)).heap.size := by simp
  have hbl := (Below.refl w.heap.size w).alloc (Nat.le_refl _) (.cells #[] 5)
  have hb1 := hb.below hbl
  have ho := ow_empty w
  go_enter Try.func13, Try.ntmps13
  go_wp2_with (at_builtin; refine wpList_append_bs bt rfl _ _ rfl w.heap.size rfl rfl ho hb1 hs hz ?_; intro v3 w3 ho3 hg3)
  go_ret
  exact ⟨_, rfl, ho3, below_own hbl ho hg3⟩

set_option maxHeartbeats 400000 in
theorem refAfter_any {b : Value} {l : List UInt8} (w : World) (hb : Bs w b l) (hl : l.length ≤ 1073741824) :
    Calls Try.prog 24 #[b] w (Gives w (l ++ [0])) := by
  have hs : ([] : List UInt8).length + l.length ≤ 140737488355328 := by simp; omega
  have hz : w.heap.size ≤ (w.alloc (.cells #[] 5)).heap.size := by simp
  have hbl := (Below.refl w.heap.size w).alloc (Nat.le_refl _) (.cells #[] 5)
  have hb1 := hb.below hbl
  have ho := ow_empty w
  have hs2 : ([] ++ l : List UInt8).length + [(0 : UInt8)].length ≤ 140737488355328 := by simp; omega
  go_enter Try.func24, Try.ntmps24
  go_wp2_with (first | (at_builtin; refine wpList_append_bs bt rfl (.tmp 3) (.tmp 4) rfl w.heap.size rfl rfl ho hb1 hs hz ?_; intro v3 w3 ho3 hg3; have hbl3 := below_own hbl ho hg3; have hbl4 := hbl3.alloc hbl3.size (.cells #[Value.int .u8 0] 5); have ho4 := ho3.below ((Below.refl _ _).alloc (Nat.le_refl _) (.cells #[Value.int .u8 0] 5)); have hz4 := hbl4.size) | (at_builtin; refine wpList_append_bs bt rfl (.tmp 5) (.tmp 6) rfl w.heap.size rfl rfl ho4 (Bs.new1 _ _ _ 0 rfl) hs2 hz4 ?_; intro v5 w5 ho5 hg5))
  go_ret
  exact ⟨_, rfl, ho5, below_own hbl4 ho4 hg5⟩

set_option maxHeartbeats 400000 in
theorem refPut_any {b : Value} {l : List UInt8} (n : Nat) (k : Int) (w : World) (hb : Bs w b l) (hl : l.length ≤ 1073741824) :
    Calls Try.prog 16 #[b, .int .u64 (n : Int), .int .i64 k] w (Gives w (putL l n k)) := by
  have hs : ([] : List UInt8).length + l.length ≤ 140737488355328 := by simp; omega
  have hz : w.heap.size ≤ (w.alloc (.cells #[] 5)).heap.size := by simp
  have hbl := (Below.refl w.heap.size w).alloc (Nat.le_refl _) (.cells #[] 5)
  have hb1 := hb.below hbl
  have ho := ow_empty w
  by_cases hk : mayB k = true
  · obtain ⟨k1, k8⟩ := mayB_true hk
    obtain ⟨k, rfl⟩ := Int.eq_ofNat_of_zero_le (show 0 ≤ k by omega)
    have hp : Hid (putL l n (k : Int) = l ++ beL n k) := Lib.hid (by unfold putL; rw [if_pos hk]; rfl)
    go_enter Try.func16, Try.ntmps16
    go_wp2_with (at_builtin; refine wpList_append_bs bt rfl (.tmp 9) (.tmp 10) rfl w.heap.size rfl rfl ho hb1 hs hz ?_; intro v3 w3 ho3 hg3)
    have hbl3 := below_own hbl ho hg3
    refine (refSize_any _ _).mono ?_
    rintro e w4 ⟨rfl, rfl⟩
    go_wp2_with fail
    go_loopw [7, 8] (fun s i wr => ∃ r : Nat, r ≤ k ∧ i = .int .i64 r ∧ Ow wr w.heap.size 5 s (l ++ (beL n k).take r) ∧ Below w.heap.size w wr) (fun _ i _ => k - (intOf i).toNat)
    case atStart => exact ⟨0, by omega, rfl, by simpa using ho3, hbl3⟩
    case round =>
      obtain ⟨r, hr, rfl, hor, hbr⟩ := hrel
      by_cases hlt : r < k
      · have hs : (l ++ (beL n k).take r).length + [UInt8.ofNat (n / 2 ^ (8 * (k - 1 - r)))].length ≤ 140737488355328 := by simp; omega
        have hz : w.heap.size ≤ (wr.alloc (.cells #[Value.int .u8 ((n : Int) / 2 ^ (8 * (k - 1 - r)) % 256)] 5)).heap.size := by have := hbr.size; simp; omega
        go_wp2_with (at_builtin; refine wpList_append_bs bt rfl _ _ rfl w.heap.size rfl rfl (hor.below ((Below.refl _ _).alloc (Nat.le_refl _) _)) (Bs.new1 _ _ _ _ (byte_val n (8 * (k - 1 - r)))) hs hz ?_; intro v2 w2 ho2 hg2)
        go_roundw
        case rel =>
          refine ⟨r + 1, by omega, by go_num, ?_, (hbr.alloc (by have := hbr.size; omega) _).grown hg2 hz (fun j hj => (World.ownsRow.lt hor j hj).1)⟩
          rw [beL_take_succ n k r hlt, ← List.append_assoc]
          exact ho2
        case measure => simp [intOf]; omega
      · obtain rfl : r = k := by omega
        rw [beL_take_all] at hor
        go_wp2
        go_ret
        refine ⟨_, rfl, ?_, hbr⟩
        rw [hp.out]
        exact hor
  · have hk' : mayB k = false := by simpa using hk
    have hp : Hid (putL l n k = l) := Lib.hid (by unfold putL; rw [if_neg hk])
    clear hk
    go_enter Try.func16, Try.ntmps16
    go_wp2_with (at_builtin; refine wpList_append_bs bt rfl (.tmp 9) (.tmp 10) rfl w.heap.size rfl rfl ho hb1 hs hz ?_; intro v3 w3 ho3 hg3)
    have hbl3 := below_own hbl ho hg3
    refine (refSize_any _ _).mono ?_
    rintro e w4 ⟨rfl, rfl⟩
    go_wp2
    go_ret
    refine ⟨_, rfl, ?_, hbl3⟩
    rw [hp.out]
    exact ho3

set_option maxHeartbeats 400000 in
theorem refPutBytes_many {b s : Value} {l m : List UInt8} (w : World) (hb : Bs w b l) (hs : Bs w s m) (hm : 65535 < m.length) :
    Calls Try.prog 18 #[b, s] w fun e w' => e = .returned (.tuple #[.slice none 0 0, .int .i64 6]) ∧ w = w' := by
  obtain ⟨a, cap, rfl, hb⟩ := hb.shape
  obtain ⟨a2, cap2, rfl, hs⟩ := hs.shape
  go_enter Try.func18, Try.ntmps18
  go_wp2
  go_ret2
  exact ⟨rfl, rfl⟩

theorem putL_two (l : List UInt8) (n : Nat) : putL l n 2 = l ++ beL n 2 := rfl

set_option maxHeartbeats 400000 in
theorem refPutBytes_any {b s : Value} {l m : List UInt8} (w : World) (hb : Bs w b l) (hs : Bs w s m) (hl : l.length ≤ 1073741824) (hm : m.length ≤ 65535) :
    Calls Try.prog 18 #[b, s] w (Gives2 w (putsL l m)) := by
  obtain ⟨a2, cap2, rfl, hs⟩ := hs.shape
  have hsz : (putL l m.length 2).length + m.length ≤ 140737488355328 := by rw [putL_two]; simp [beL_length]; omega
  go_enter Try.func18, Try.ntmps18
  go_wp2_with fail
  refine (refPut_any m.length 2 _ hb hl).mono ?_
  rintro e w3 ⟨v3, rfl, ho3, hbl⟩
  have hs3 := hs.below hbl
  have hz := hbl.size
  go_wp2_with (at_builtin; refine wpList_append_bs bt rfl _ _ rfl w.heap.size rfl rfl ho3 hs3 hsz hz ?_; intro v4 w4 ho4 hg4)
  go_ret2
  exact ⟨_, rfl, ho4, below_own hbl ho3 hg4⟩

/-- One number for another in what is returned. -/
theorem ret_i64 {x y : Int} (h : x = y) : Ending.returned (.int .i64 y) = .returned (.int .i64 x) := by rw [h]

set_option maxHeartbeats 1000000 in
theorem refOrder_any {a b : Value} {l m : List UInt8} (w : World) (ha : Bs w a l) (hb : Bs w b m) (hl : l.length ≤ 1073741824) (hm : m.length ≤ 1073741824) :
    Calls Try.prog 23 #[a, b] w fun e w' => e = .returned (.int .i64 (Lib.compareBytes l m)) ∧ Below w.heap.size w w' := by
  obtain ⟨a1, cap1, rfl, ha⟩ := ha.shape
  obtain ⟨a2, cap2, rfl, hb⟩ := hb.shape
  go_enter Try.func23, Try.ntmps23
  go_wp2_with fail
  go_loopw [5] (fun i wr => ∃ r : Nat, i = .int .i64 r ∧ r ≤ l.length ∧ r ≤ m.length ∧ l.take r = m.take r ∧ Below w.heap.size w wr) (fun i _ => l.length - (intOf i).toNat)
  case atStart => exact ⟨0, rfl, by omega, by omega, by simp, Below.refl _ _⟩
  case round =>
    obtain ⟨r, rfl, hr1, hr2, heq, hbr⟩ := hrel
    have Heq := Lib.hid heq
    clear heq
    by_cases h1 : r < l.length
    · by_cases h2 : r < m.length
      · obtain ⟨o1, p1, c1, e1, q1, hlt1, hc1⟩ := ha.open (by omega)
        obtain ⟨o2, p2, c2, e2, q2, hlt2, hc2⟩ := hb.open (by omega)
        simp only [Value.slice.injEq] at e1 e2
        obtain ⟨rfl, _, rfl⟩ := e1
        obtain ⟨rfl, _, rfl⟩ := e2
        obtain ⟨x, hx⟩ : ∃ x, l[r]? = some x := ⟨_, List.getElem?_eq_getElem h1⟩
        obtain ⟨y, hy⟩ : ∃ y, m[r]? = some y := ⟨_, List.getElem?_eq_getElem h2⟩
        have hcx := (hbr.cell (p := ⟨o1, p1 + r, none⟩) (by exact hlt1)).trans (hc1 r x hx)
        have hcy := (hbr.cell (p := ⟨o2, p2 + r, none⟩) (by exact hlt2)).trans (hc2 r y hy)
        have Hx := Lib.hid hx
        have Hy := Lib.hid hy
        clear hx hy hc1 hc2
        rcases Nat.lt_trichotomy x.toNat y.toNat with h | h | h
        · go_wp2
          go_quiet (fail)
          go_wp2
          go_ret
          exact ⟨ret_i64 (cmp_lt Heq.out Hx.out Hy.out h), below_drewN hbr _⟩
        · have n1 : ¬ (x.toNat : Int) < y.toNat := by omega
          have n2 : ¬ (y.toNat : Int) < x.toNat := by omega
          have Ht := Lib.hid h
          clear h
          go_wp2
          go_quiet (fail)
          go_wp2
          go_quiet (fail)
          go_wp2
          go_roundw
          case rel => exact ⟨r + 1, by go_num, by omega, by omega, take_more Heq.out Hx.out Hy.out Ht.out, below_drewN hbr _⟩
          case measure => simp [intOf]; omega
        · have n1 : ¬ (x.toNat : Int) < y.toNat := by omega
          go_wp2
          go_quiet (fail)
          go_wp2
          go_quiet (fail)
          go_wp2
          go_ret
          exact ⟨ret_i64 (cmp_gt Heq.out Hx.out Hy.out h), below_drewN (below_drewN hbr _) _⟩
      · obtain rfl : r = m.length := by omega
        have hf : Hid (Lib.compareBytes l m = 1) := Lib.hid (cmp_long Heq.out h1)
        go_wp2
        go_ret
        exact ⟨ret_i64 hf.out, hbr⟩
    · obtain rfl : r = l.length := by omega
      rcases Nat.lt_or_ge l.length m.length with h | h
      · have hf : Hid (Lib.compareBytes l m = -1) := Lib.hid (cmp_short Heq.out h)
        go_wp2
        go_ret
        exact ⟨ret_i64 hf.out, hbr⟩
      · have hf : Hid (Lib.compareBytes l m = 0) := Lib.hid (cmp_same Heq.out (by omega))
        have n1 : ¬ (l.length : Int) < m.length := by omega
        have n2 : ¬ (m.length : Int) < l.length := by omega
        go_wp2
        go_ret
        exact ⟨ret_i64 hf.out, hbr⟩

/-! ### the same bytes? -/
set_option maxHeartbeats 400000 in
theorem same_any {a b : Value} {l m : List UInt8} (w : World) (ha : Bs w a l) (hb : Bs w b m) (hl : l.length ≤ 1073741824) (hm : m.length ≤ 1073741824) :
    Calls Try.prog 15 #[a, b] w fun e w' => e = .returned (.bool (Lib.compareBytes l m == 0)) ∧ Below w.heap.size w w' := by
  go_enter Try.func15, Try.ntmps15
  go_wp2_with fail
  refine (refOrder_any _ ha hb hl hm).mono ?_
  rintro e w1 ⟨rfl, hb1⟩
  go_wp2
  go_ret
  exact ⟨rfl, hb1⟩

theorem same_true {a b : Value} {l : List UInt8} (w : World) (ha : Bs w a l) (hb : Bs w b l) (hl : l.length ≤ 1073741824) :
    Calls Try.prog 15 #[a, b] w fun e w' => e = .returned (.bool true) ∧ Below w.heap.size w w' := by
  refine (same_any w ha hb hl hl).mono fun e w' h => ?_
  rw [cmp_self] at h
  exact h

set_option maxHeartbeats 400000 in
theorem vast_yes {b : Value} {l : List UInt8} (w : World) (hb : Bs w b l) (h : 16384 < l.length) :
    Calls Try.prog 9 #[b] w fun e w' => e = .returned (.bool true) ∧ w = w' := by
  obtain ⟨a, cap, rfl, hb⟩ := hb.shape
  go_enter Try.func9, Try.ntmps9
  go_wp2
  go_ret
  exact ⟨by simp; omega, rfl⟩

set_option maxHeartbeats 400000 in
theorem vast_no {b : Value} {l : List UInt8} (w : World) (hb : Bs w b l) (h : l.length ≤ 16384) :
    Calls Try.prog 9 #[b] w fun e w' => e = .returned (.bool false) ∧ w = w' := by
  obtain ⟨a, cap, rfl, hb⟩ := hb.shape
  go_enter Try.func9, Try.ntmps9
  go_wp2
  go_ret
  exact ⟨by simp; omega, rfl⟩

/-! ### Take, the document's -/
theorem wrap_step (n : Nat) (x : UInt8) : (256 * (n : Int) + (x.toNat : Int)) = ((n * 256 + x.toNat : Nat) : Int) := by omega

set_option maxHeartbeats 400000 in
theorem refTake_any {b : Value} {l : List UInt8} (p k : Int) (w : World) (hb : Bs w b l) (hl : l.length ≤ 1073741824) :
    Calls Try.prog 14 #[b, .int .i64 p, .int .i64 k] w (Takes w l p k) := by
  obtain ⟨a, cap, rfl, hb⟩ := hb.shape
  by_cases hk : mayB k = true
  · by_cases h0 : 0 ≤ p
    · by_cases h1 : p ≤ l.length
      · have hm : takeMay l p k := ⟨hk, h0, h1⟩
        obtain ⟨k1, k8⟩ := mayB_true hk
        obtain ⟨k, rfl⟩ := Int.eq_ofNat_of_zero_le (show 0 ≤ k by omega)
        obtain ⟨p, rfl⟩ := Int.eq_ofNat_of_zero_le h0
        by_cases h2 : (k : Int) ≤ l.length - p
        · have c1 : ¬ (p : Int) < 0 := by omega
          have c2 : ¬ (l.length : Int) < p := by omega
          have c3 : ¬ (l.length : Int) - p < k := by omega
          have fin := fun (w' : World) (hb' : Below w.heap.size w w') => takes_ok (w' := w') hm h2 hb'
          obtain ⟨b, o, cap', e1, hcap, hbs, hcell⟩ := hb.open (by omega)
          simp only [Value.slice.injEq] at e1
          obtain ⟨rfl, _, rfl⟩ := e1
          have hget : ∀ r x, ((l.take (p + k)).drop p)[r]? = some x → l[p + r]? = some x := by
            intro r x h
            rw [List.getElem?_drop, List.getElem?_take] at h
            split at h
            · exact h
            · cases h
          have hlen : ((l.take (p + k)).drop p).length = k := by simp; omega
          generalize (l.take (p + k)).drop p = m at *
          have Hlen := Lib.hid hlen
          have Hfin := Lib.hid fin
          have Hcell := Lib.hid hcell
          have Hget := Lib.hid hget
          clear hlen fin hcell hm hget
          go_enter Try.func14, Try.ntmps14
          go_wp2_with fail
          refine (refSize_any _ _).mono ?_
          rintro e w1 ⟨rfl, rfl⟩
          go_wp2
          go_loop [9, 10] (fun n i => ∃ r : Nat, r ≤ k ∧ i = .int .i64 r ∧ n = .int .u64 ((beNat (m.take r) : Nat) : Int)) (fun _ i => k - (intOf i).toNat)
          case atStart => exact ⟨0, by omega, rfl, by simp [beNat]⟩
          case round =>
            obtain ⟨r, hr, rfl, rfl⟩ := hrel
            by_cases hlt : r < k
            · obtain ⟨x, hx⟩ : ∃ x, m[r]? = some x := ⟨_, List.getElem?_eq_getElem (by have := Hlen.out; omega)⟩
              have hc := Hcell.out (p + r) x (Hget.out r x hx)
              have hbd : beNat (m.take r) < 72057594037927936 := by
                have h := beNat_lt (m.take r)
                have : (256 : Nat) ^ (m.take r).length ≤ 256 ^ 7 := Nat.pow_le_pow_right (by omega) (by have := List.length_take_le r m; omega)
                omega
              have hxb : x.toNat < 256 := x.toNat_lt
              have Hx := Lib.hid hx
              clear hx
              go_wp2
              go_round
              case rel =>
                refine ⟨r + 1, by omega, by go_num, ?_⟩
                rw [beNat_take_succ m r x Hx.out, ← wrap_step _ x]
              case measure => simp [intOf]; omega
            · obtain rfl : r = k := by omega
              have e : m.take r = m := List.take_of_length_le (by have := Hlen.out; omega)
              rw [e]
              clear e
              go_wp2
              go_ret3
              exact Hfin.out _ (Below.refl _ _)
        · have c1 : ¬ (p : Int) < 0 := by omega
          have c2 : ¬ (l.length : Int) < p := by omega
          go_enter Try.func14, Try.ntmps14
          go_wp2_with fail
          refine (refSize_any _ _).mono ?_
          rintro e w1 ⟨rfl, rfl⟩
          go_wp2
          go_ret3
          exact takes_few hm (by omega) (Below.refl _ _)
      · have hm : ¬ takeMay l p k := fun h => h1 h.2.2
        have c1 : ¬ p < 0 := by omega
        go_enter Try.func14, Try.ntmps14
        go_wp2_with fail
        refine (refSize_any _ _).mono ?_
        rintro e w1 ⟨rfl, rfl⟩
        go_wp2
        go_ret3
        exact takes_bad hm (Below.refl _ _)
    · have hm : ¬ takeMay l p k := fun h => h0 h.2.1
      go_enter Try.func14, Try.ntmps14
      go_wp2_with fail
      refine (refSize_any _ _).mono ?_
      rintro e w1 ⟨rfl, rfl⟩
      go_wp2
      go_ret3
      exact takes_bad hm (Below.refl _ _)
  · have hm : ¬ takeMay l p k := fun h => hk h.1
    have hk' : mayB k = false := by simpa using hk
    clear hk
    go_enter Try.func14, Try.ntmps14
    go_wp2_with fail
    refine (refSize_any _ _).mono ?_
    rintro e w1 ⟨rfl, rfl⟩
    go_wp2
    go_ret3
    exact takes_bad hm (Below.refl _ _)
end Go.Proofs.Ytnfmbggffmloeaa
