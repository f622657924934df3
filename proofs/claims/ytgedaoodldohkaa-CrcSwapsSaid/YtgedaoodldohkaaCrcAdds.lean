/- The walk of CrcAdds: it returns true and writes nothing that was there; no condition. -/
import Derived.Test.YtgedaoodldohkaaCrcSums
import Derived.StillTailTactics
namespace Go.Proofs.Ytgedaoodldohkaa
open Go.RowKit

/-- The bytes of three strings laid over one another, the first r of them; noughts behind. -/
def overL (a b c : List UInt8) (n r : Nat) : List UInt8 := (List.range n).map fun i => if i < r then (a[i]?.getD 0) ^^^ (b[i]?.getD 0) ^^^ (c[i]?.getD 0) else 0

theorem overL_length (a b c : List UInt8) (n r : Nat) : (overL a b c n r).length = n := by simp [overL]
theorem overL_zero (a b c : List UInt8) (n : Nat) : overL a b c n 0 = List.replicate n 0 := by
  apply List.ext_getElem?
  intro i
  by_cases hi : i < n <;> simp [overL, hi]
theorem overL_set {a b c : List UInt8} {n r : Nat} {x y z : UInt8} (hx : a[r]? = some x) (hy : b[r]? = some y) (hz : c[r]? = some z) :
    (overL a b c n r).set r (x ^^^ y ^^^ z) = overL a b c n (r + 1) := by
  apply List.ext_getElem?
  intro i
  rw [List.getElem?_set]
  by_cases hi : r = i
  · subst hi
    by_cases hn : r < n
    · simp [overL, hn, hx, hy, hz]
    · simp [overL, hn]
  · rw [if_neg hi]
    by_cases hn : i < n
    · have e : (i < r) ↔ (i < r + 1) := by omega
      simp [overL, hn, e]
    · simp [overL, hn]

theorem xor_shuffle (p q u v : Nat) : (p ^^^ u) ^^^ (q ^^^ v) = (p ^^^ q) ^^^ (u ^^^ v) := by
  apply Nat.eq_of_testBit_eq
  intro i
  simp only [Nat.testBit_xor]
  cases p.testBit i <;> cases q.testBit i <;> cases u.testBit i <;> cases v.testBit i <;> rfl

theorem leN_xor (a : List UInt8) : ∀ b : List UInt8, a.length = b.length → leN a ^^^ leN b = leN (List.zipWith (· ^^^ ·) a b) := by
  induction a with
  | nil =>
    intro b h
    have : b = [] := List.eq_nil_of_length_eq_zero h.symm
    subst this
    rfl
  | cons x a iha =>
    intro b h
    match b, h with
    | y :: b, h =>
      have ih := iha b (by simpa using h)
      have e1 := leN_cons x a
      have e2 := leN_cons y b
      have e3 : leN (List.zipWith (· ^^^ ·) (x :: a) (y :: b)) = (x ^^^ y).toNat ^^^ leN (List.zipWith (· ^^^ ·) a b) * 2 ^ 8 := leN_cons (x ^^^ y) _
      have e4 := xor_mul (leN a) (leN b) 8
      rw [e1, e2, e3, ← ih, e4, UInt8.toNat_xor]
      exact xor_shuffle _ _ _ _

theorem overL_all (a b c : List UInt8) (n : Nat) (h1 : n ≤ a.length) (h2 : n ≤ b.length) (h3 : n ≤ c.length) :
    sumN (a.take n) ^^^ sumN (b.take n) ^^^ sumN (c.take n) = sumN (overL a b c n n) := by
  have la : (a.take n).length = n := by simp; omega
  have lb : (b.take n).length = n := by simp; omega
  have lc : (c.take n).length = n := by simp; omega
  apply sumN_adds _ _ _ _ (by rw [la, lb]) (by rw [la, lc]) (by rw [la, overL_length])
  rw [leN_xor _ _ (by rw [la, lb]), leN_xor _ _ (by simp; omega)]
  congr 1
  apply List.ext_getElem?
  intro i
  by_cases hn : i < n
  · have i1 : i < a.length := by omega
    have i2 : i < b.length := by omega
    have i3 : i < c.length := by omega
    simp [overL, hn, i1, i2, i3, List.getElem?_zipWith]
  · rw [List.getElem?_eq_none (by rw [overL_length]; omega), List.getElem?_eq_none (by simp; omega)]

theorem bxor_u8 (x y : UInt8) : bits .xor .u8 (x.toNat : Int) (y.toNat : Int) = ((x.toNat ^^^ y.toNat : Nat) : Int) :=
  u8_xor_nat x.toNat y.toNat x.toNat_lt y.toNat_lt

theorem x32 (a b : Nat) (ha : a < 4294967296) (hb : b < 4294967296) : bits .xor .u32 (a : Int) (b : Int) = ((a ^^^ b : Nat) : Int) := u32_xor_nat a b ha hb

theorem still_left {P : Program} {f : FuncId} {args : Array Value} {w : World} {v : Value} (h : Calls P f args w fun e w' => e = .returned v ∧ w = w') : Calls P f args w fun e w' => e = .returned v ∧ w' = w :=
  h.mono fun _ _ ⟨he, hm⟩ => ⟨he, hm.symm⟩

set_option maxRecDepth 100000 in
set_option maxHeartbeats 1000000 in
theorem crcAdds_go {a b c : Value} {la lb lc : List UInt8} (n : Nat) (w : World) (ha : Bs w a la) (hb : Bs w b lb) (hc : Bs w c lc) (hn : n ≤ 8192) (h1 : n ≤ la.length) (h2 : n ≤ lb.length) (h3 : n ≤ lc.length)
    (hmin : (n : Int) = if (lc.length : Int) < (if (lb.length : Int) < (la.length : Int) then (lb.length : Int) else (la.length : Int)) then (lc.length : Int) else (if (lb.length : Int) < (la.length : Int) then (lb.length : Int) else (la.length : Int))) :
    Calls Try.prog 5 #[a, b, c] w (Yes w) := by
  obtain ⟨pa, ca, rfl, ha⟩ := ha.shape
  obtain ⟨pb, cb, rfl, hb⟩ := hb.shape
  obtain ⟨pc, cc, rfl, hc⟩ := hc.shape
  have hm : ∀ W : World, (Builtin.min_ #[3, 3, 3] 3 #[.int .i64 (la.length : Int), .int .i64 (lb.length : Int), .int .i64 (lc.length : Int)]).run Try.prog W = .ok (.int .i64 (n : Int)) W := by
    intro W
    rw [run_min_int3, ← hmin]
  clear hmin
  obtain ⟨w1, hmk, o1, g1⟩ := run_zeros_bs bt w w.heap.size .i64 .i64 n (by omega) (Nat.le_refl _)
  have b1 : Below w.heap.size w w1 := (Below.refl _ _).grown g1 (Nat.le_refl _) (fun _ h => by cases h)
  go_enter Try.func5, Try.ntmps5
  go_wp2_with fail
  go_loopw [9] (fun i wr => ∃ r : Nat, r ≤ n ∧ i = .int .i64 r ∧ Ow wr w.heap.size 5 (.slice (some ⟨w.heap.size, 0, none⟩) n n) (overL la lb lc n r) ∧ Below w.heap.size w wr) (fun i _ => n - (intOf i).toNat)
  case atStart => exact ⟨0, Nat.zero_le _, rfl, by rw [overL_zero]; exact o1, b1⟩
  case round =>
    obtain ⟨r, hr, rfl, ho, hbr⟩ := hrel
    by_cases hlt : r < n
    · obtain ⟨x, hx⟩ : ∃ x, la[r]? = some x := ⟨_, List.getElem?_eq_getElem (by omega)⟩
      obtain ⟨y, hy⟩ : ∃ y, lb[r]? = some y := ⟨_, List.getElem?_eq_getElem (by omega)⟩
      obtain ⟨z, hz⟩ : ∃ z, lc[r]? = some z := ⟨_, List.getElem?_eq_getElem (by omega)⟩
      obtain ⟨ba, oa, ca', ea, _, la0, hca⟩ := ha.open (by omega)
      obtain ⟨bb, ob, cb', eb, _, lb0, hcb⟩ := hb.open (by omega)
      obtain ⟨bc, oc, cc', ec, _, lc0, hcc⟩ := hc.open (by omega)
      simp only [Value.slice.injEq] at ea eb ec
      obtain ⟨rfl, _, rfl⟩ := ea
      obtain ⟨rfl, _, rfl⟩ := eb
      obtain ⟨rfl, _, rfl⟩ := ec
      have c1 := (hbr.cell (p := ⟨ba, oa + r, none⟩) (by exact la0)).trans (hca r x hx)
      have c2 := (hbr.cell (p := ⟨bb, ob + r, none⟩) (by exact lb0)).trans (hcb r y hy)
      have c3 := (hbr.cell (p := ⟨bc, oc + r, none⟩) (by exact lc0)).trans (hcc r z hz)
      have hat := ho.at r (by rw [overL_length]; exact hlt)
      have c4 := hat.1
      have c5 := hat.2.1
      have i0 : (0 : Int) ≤ (r : Int) := by omega
      have i1 : (r : Int) < (la.length : Int) := by omega
      have i2 : (r : Int) < (lb.length : Int) := by omega
      have i3 : (r : Int) < (lc.length : Int) := by omega
      have i4 : (r : Int) < (n : Int) := by omega
      have x1 := bxor_u8 x y
      have x2 := bxor_u8 (x ^^^ y) z
      rw [UInt8.toNat_xor] at x2
      have ev : Value.int .u8 ((x.toNat ^^^ y.toNat ^^^ z.toNat : Nat) : Int) = bv (x ^^^ y ^^^ z) := by simp [bv]
      have Hv := Lib.hid ev
      clear ev
      have H := Lib.hid (overL_set (n := n) hx hy hz)
      clear hx hy hz hca hcb hcc hat
      go_wp2_with fail
      go_still_tail 17, (by kernel_rfl)
      change wpList _ _ _ _ _ wr.drew
      have c4' : wr.drew.cell? ⟨w.heap.size, r, none⟩ = _ := c4
      have c5' : wr.drew.frozen? ⟨w.heap.size, r, none⟩ = false := c5
      have ho' : Ow wr.drew w.heap.size 5 (.slice (some ⟨w.heap.size, 0, none⟩) n n) (overL la lb lc n r) := ho
      have hbr' : Below w.heap.size w wr.drew := below_drewN hbr 1
      clear c1 c2 c3 c4 c5 ho hbr
      generalize wr.drew = w2 at *
      go_wp2
      rw [Hv.out]
      go_roundw
      case rel =>
        refine ⟨r + 1, by omega, by go_num, ?_, hbr'.setCell (Nat.le_refl _) _⟩
        rw [← H.out]
        exact ho'.set r _
      case measure => simp [intOf]; omega
    · obtain rfl : r = n := by omega
      obtain ⟨va, ra, sa⟩ := run_slice_to_bs bt wr (ha.below hbr) .i64 r h1
      obtain ⟨vb, rb, sb⟩ := run_slice_to_bs bt wr (hb.below hbr) .i64 r h2
      obtain ⟨vc, rc, sc⟩ := run_slice_to_bs bt wr (hc.below hbr) .i64 r h3
      have hall := overL_all la lb lc r h1 h2 h3
      have ua := sumN_lt (la.take r)
      have ub := sumN_lt (lb.take r)
      have uc := sumN_lt (lc.take r)
      generalize la.take r = ta at *
      generalize lb.take r = tb at *
      generalize lc.take r = tc at *
      have y1 := x32 _ _ ua ub
      have y2 := x32 _ _ (Nat.xor_lt_two_pow (n := 32) ua ub) uc
      rw [hall] at y2
      have H := Lib.hid hall
      clear hall ha hb hc ua ub uc
      go_wp2_with fail
      go_still_tail 17, (by kernel_rfl)
      still_call (still_left (sum_any _ (sa.drewN 1)))
      repeat still_step
      still_call (still_left (sum_any _ (sb.drewN 1)))
      repeat still_step
      still_call (still_left (sum_any _ (sc.drewN 1)))
      repeat still_step
      still_call (still_left (sum_any _ (ho.bs.drewN 1)))
      repeat still_step
      refine wpStill_nil ?_
      change wpList _ _ _ _ _ wr.drew
      have hbr' : Below w.heap.size w wr.drew := below_drewN hbr 1
      clear hbr sa sb sc ho
      generalize wr.drew = w2 at *
      go_wp2_with fail
      refine (works_any _).mono ?_
      rintro e w3 ⟨rfl, b3⟩
      go_wp2
      go_ret
      exact ⟨rfl, hbr'.trans (b3.mono hbr'.size)⟩

set_option maxHeartbeats 1000000 in
theorem crcAdds_vast {a b c : Value} {la lb lc : List UInt8} (w : World) (ha : Bs w a la) (hb : Bs w b lb) (hc : Bs w c lc) (h1 : 8192 < la.length) (h2 : 8192 < lb.length) (h3 : 8192 < lc.length) :
    Calls Try.prog 5 #[a, b, c] w (Yes w) := by
  obtain ⟨pa, ca, rfl, ha⟩ := ha.shape
  obtain ⟨pb, cb, rfl, hb⟩ := hb.shape
  obtain ⟨pc, cc, rfl, hc⟩ := hc.shape
  have hm : ∃ n : Nat, 8192 < n ∧ ∀ W : World, (Builtin.min_ #[3, 3, 3] 3 #[.int .i64 (la.length : Int), .int .i64 (lb.length : Int), .int .i64 (lc.length : Int)]).run Try.prog W = .ok (.int .i64 (n : Int)) W := by
    refine ⟨min (min la.length lb.length) lc.length, by omega, fun W => ?_⟩
    rw [run_min_int3]
    congr 2
    split <;> split <;> omega
  obtain ⟨n, hn, hm⟩ := hm
  go_enter Try.func5, Try.ntmps5
  go_wp2_with fail
  refine (works_any _).mono ?_
  rintro e w3 ⟨rfl, b3⟩
  go_wp2
  go_ret
  exact ⟨rfl, b3⟩

theorem crcAdds_any {a b c : Value} {la lb lc : List UInt8} (w : World) (ha : Bs w a la) (hb : Bs w b lb) (hc : Bs w c lc) :
    Calls Try.prog 5 #[a, b, c] w (Yes w) := by
  by_cases h : min (min la.length lb.length) lc.length ≤ 8192
  · refine crcAdds_go (min (min la.length lb.length) lc.length) w ha hb hc h (by omega) (by omega) (by omega) ?_
    split <;> split <;> omega
  · exact crcAdds_vast w ha hb hc (by omega) (by omega) (by omega)
end Go.Proofs.Ytgedaoodldohkaa
