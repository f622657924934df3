/- The contract of octet.Take: it answers as the chapter says and writes nothing that was there; condition: the list is no longer than 2^30. -/
import Derived.Test.YtcpapdpnnlnemaaOcPut
namespace Go.Proofs.Ytcpapdpnnlnemaa
open Go.RowKit

/-! ### Take -/
/-- May a number be taken? -/
def takeMay (l : List UInt8) (p k : Int) : Prop := mayB k = true ∧ 0 ≤ p ∧ p ≤ l.length
instance (l : List UInt8) (p k : Int) : Decidable (takeMay l p k) := by unfold takeMay; exact inferInstance
def takeN (l : List UInt8) (p k : Int) : Nat := if takeMay l p k ∧ k ≤ l.length - p then beNat ((l.drop p.toNat).take k.toNat) else 0
def takeX (l : List UInt8) (p k : Int) : Int := if takeMay l p k ∧ k ≤ l.length - p then p + k else 0
def takeE (l : List UInt8) (p k : Int) : Int := if takeMay l p k then (if k ≤ l.length - p then 0 else 5) else 1
/-- What Take answers. -/
def Takes (w : World) (l : List UInt8) (p k : Int) (e : Ending) (w' : World) : Prop :=
  e = .returned (.tuple #[.int .u64 (takeN l p k), .int .i64 (takeX l p k), .int .i64 (takeE l p k)]) ∧ Below w.heap.size w w'

theorem takes_bad {w w' : World} {l : List UInt8} {p k : Int} (h : ¬ takeMay l p k) (hb : Below w.heap.size w w') :
    Takes w l p k (.returned (.tuple #[.int .u64 0, .int .i64 0, .int .i64 1])) w' := by
  refine ⟨?_, hb⟩
  simp [takeN, takeX, takeE, h]

theorem takes_few {w w' : World} {l : List UInt8} {p k : Int} (h : takeMay l p k) (h2 : l.length - p < k) (hb : Below w.heap.size w w') :
    Takes w l p k (.returned (.tuple #[.int .u64 0, .int .i64 0, .int .i64 5])) w' := by
  refine ⟨?_, hb⟩
  have h2' : ¬ k ≤ l.length - p := by omega
  simp [takeN, takeX, takeE, h, h2']

theorem takes_ok {w w' : World} {l : List UInt8} {p k : Nat} (h : takeMay l p k) (h2 : (k : Int) ≤ l.length - p) (hb : Below w.heap.size w w') :
    Takes w l p k (.returned (.tuple #[.int .u64 ((beNat ((l.take (p + k)).drop p) : Nat) : Int), .int .i64 ((p : Int) + k), .int .i64 0])) w' := by
  refine ⟨?_, hb⟩
  have e : (l.take (p + k)).drop p = (l.drop p).take k := by rw [List.take_drop]
  simp [takeN, takeX, takeE, h, h2, e]

set_option maxHeartbeats 400000 in
theorem take_any {b : Value} {l : List UInt8} (p k : Int) (w : World) (hb : Bs w b l) (hl : l.length ≤ 1073741824) :
    Calls Try.prog 64 #[b, .int .i64 p, .int .i64 k] w (Takes w l p k) := by
  obtain ⟨a, cap, rfl, hb⟩ := hb.shape
  by_cases hk : mayB k = true
  · by_cases h0 : 0 ≤ p
    · by_cases h1 : p ≤ l.length
      · have hm : takeMay l p k := ⟨hk, h0, h1⟩
        obtain ⟨k1, k8⟩ := mayB_true hk
        obtain ⟨k, rfl⟩ := Int.eq_ofNat_of_zero_le (show 0 ≤ k by omega)
        obtain ⟨p, rfl⟩ := Int.eq_ofNat_of_zero_le h0
        by_cases h2 : (k : Int) ≤ l.length - p
        · have c1 : ¬ (p : Int) < 0 := by omega
          have c2 : ¬ (l.length : Int) < p := by omega
          have c3 : ¬ (l.length : Int) - p < k := by omega
          have fin := fun (w' : World) (hb' : Below w.heap.size w w') => takes_ok (w' := w') hm h2 hb'
          obtain ⟨v, hv, hbv⟩ := run_slice_bs bt w hb .i64 .i64 p (p + k) (by omega) (by omega)
          have hlen : ((l.take (p + k)).drop p).length = k := by simp; omega
          generalize (l.take (p + k)).drop p = m at *
          obtain ⟨b, o, cap', rfl, hcap, hbs, hcell⟩ := hbv.open (by omega)
          rw [hlen] at hv
          rw [Int.natCast_add] at hv
          have Hlen := Lib.hid hlen
          have Hfin := Lib.hid fin
          have Hcell := Lib.hid hcell
          clear hlen fin hcell hbv hm
          go_enter Try.func64, Try.ntmps64
          go_wp2_with fail
          refine (maySize_any _ _).mono ?_
          rintro e w1 ⟨rfl, hb1⟩
          go_wp2
          go_loop [6, 10, 38] (fun n x i => ∃ r : Nat, r ≤ k ∧ i = .int .i64 r ∧ n = .int .u64 ((beNat (m.take r) : Nat) : Int)) (fun _ _ i => k - (intOf i).toNat)
          case atStart => exact ⟨0, by omega, rfl, by simp [beNat]⟩
          case round =>
            obtain ⟨r, hr, rfl, rfl⟩ := hrel
            by_cases hlt : r < k
            · obtain ⟨x, hx⟩ : ∃ x, m[r]? = some x := ⟨_, List.getElem?_eq_getElem (by have := Hlen.out; omega)⟩
              have hc := (hb1.cell (p := ⟨b, o + r, none⟩) (by exact hbs)).trans (Hcell.out r x hx)
              have hbd : beNat (m.take r) < 72057594037927936 := by
                have h := beNat_lt (m.take r)
                have : (256 : Nat) ^ (m.take r).length ≤ 256 ^ 7 := Nat.pow_le_pow_right (by omega) (by have := List.length_take_le r m; omega)
                omega
              have hxb := x.toNat_lt
              have Hx := Lib.hid hx
              clear hx
              go_wp2
              go_round
              case rel =>
                refine ⟨r + 1, by omega, by go_num, ?_⟩
                rw [beNat_take_succ m r x Hx.out, or_byte _ x hbd]
              case measure => simp [intOf]; omega
            · obtain rfl : r = k := by omega
              have e : m.take r = m := List.take_of_length_le (by have := Hlen.out; omega)
              rw [e]
              clear e
              go_wp2
              go_ret3
              exact Hfin.out _ hb1
        · have c1 : ¬ (p : Int) < 0 := by omega
          have c2 : ¬ (l.length : Int) < p := by omega
          go_enter Try.func64, Try.ntmps64
          go_wp2_with fail
          refine (maySize_any _ _).mono ?_
          rintro e w1 ⟨rfl, hb1⟩
          go_wp2
          go_ret3
          exact takes_few hm (by omega) hb1
      · have hm : ¬ takeMay l p k := fun h => h1 h.2.2
        have c1 : ¬ p < 0 := by omega
        go_enter Try.func64, Try.ntmps64
        go_wp2_with fail
        refine (maySize_any _ _).mono ?_
        rintro e w1 ⟨rfl, hb1⟩
        go_wp2
        go_ret3
        exact takes_bad hm hb1
    · have hm : ¬ takeMay l p k := fun h => h0 h.2.1
      go_enter Try.func64, Try.ntmps64
      go_wp2_with fail
      refine (maySize_any _ _).mono ?_
      rintro e w1 ⟨rfl, hb1⟩
      go_wp2
      go_ret3
      exact takes_bad hm hb1
  · have hm : ¬ takeMay l p k := fun h => hk h.1
    have hk' : mayB k = false := by simpa using hk
    clear hk
    go_enter Try.func64, Try.ntmps64
    go_wp2_with fail
    refine (maySize_any _ _).mono ?_
    rintro e w1 ⟨rfl, hb1⟩
    go_wp2
    go_ret3
    exact takes_bad hm hb1

/-! ### TakeBytes -/
def tbN (l : List UInt8) (p : Int) : Nat := beNat ((l.drop p.toNat).take 2)
def tbOk (l : List UInt8) (p : Int) : Prop := takeMay l p 2 ∧ 2 + (tbN l p : Int) ≤ l.length - p
instance (l : List UInt8) (p : Int) : Decidable (tbOk l p) := by unfold tbOk; exact inferInstance
def tbL (l : List UInt8) (p : Int) : List UInt8 := if tbOk l p then (l.drop (p.toNat + 2)).take (tbN l p) else []
def tbX (l : List UInt8) (p : Int) : Int := if tbOk l p then p + 2 + tbN l p else 0
def tbE (l : List UInt8) (p : Int) : Int := if takeMay l p 2 then (if tbOk l p then 0 else 5) else 1
/-- What TakeBytes answers. -/
def TakesB (w : World) (l : List UInt8) (p : Int) (e : Ending) (w' : World) : Prop :=
  ∃ v, e = .returned (.tuple #[v, .int .i64 (tbX l p), .int .i64 (tbE l p)]) ∧ Ow w' w.heap.size 5 v (tbL l p) ∧ Below w.heap.size w w'

theorem takesB_bad {w w' : World} {l : List UInt8} {p : Int} (h : ¬ takeMay l p 2) (hb : Below w.heap.size w w') :
    TakesB w l p (.returned (.tuple #[.slice none 0 0, .int .i64 0, .int .i64 1])) w' := by
  have h2 : ¬ tbOk l p := fun q => h q.1
  refine ⟨.slice none 0 0, by simp [tbX, tbE, h, h2], ?_, hb⟩
  simp only [tbL, h2, if_false]
  exact World.ownsRow_nil _ _ _ _

theorem takesB_few {w w' : World} {l : List UInt8} {p : Int} (h : takeMay l p 2) (h2 : ¬ tbOk l p) (hb : Below w.heap.size w w') :
    TakesB w l p (.returned (.tuple #[.slice none 0 0, .int .i64 0, .int .i64 5])) w' := by
  refine ⟨.slice none 0 0, by simp [tbX, tbE, h, h2], ?_, hb⟩
  simp only [tbL, h2, if_false]
  exact World.ownsRow_nil _ _ _ _

theorem takesB_ok {w w' : World} {l : List UInt8} {p : Nat} {v : Value} (h2 : tbOk l p) (ho : Ow w' w.heap.size 5 v ((l.take (p + 2 + tbN l p)).drop (p + 2))) (hb : Below w.heap.size w w') :
    TakesB w l p (.returned (.tuple #[v, .int .i64 ((p : Int) + 2 + (tbN l p : Int)), .int .i64 0])) w' := by
  have h := h2.1
  refine ⟨v, by simp [tbX, tbE, h, h2], ?_, hb⟩
  simp only [tbL, h2, if_true]
  rw [List.take_drop]
  exact ho

theorem take_two_lt (l : List UInt8) (p : Int) : tbN l p < 65536 := by
  have h := beNat_lt ((l.drop p.toNat).take 2)
  have : (256 : Nat) ^ ((l.drop p.toNat).take 2).length ≤ 256 ^ 2 := Nat.pow_le_pow_right (by omega) (List.length_take_le _ _)
  unfold tbN
  omega

theorem take_two (l : List UInt8) (p : Int) (h : takeMay l p 2) (h2 : 2 ≤ l.length - p) : takeN l p 2 = tbN l p ∧ takeX l p 2 = p + 2 ∧ takeE l p 2 = 0 := by
  have h' : takeMay l p 2 ∧ 2 ≤ l.length - p := ⟨h, h2⟩
  simp [takeN, takeX, takeE, tbN, h']
theorem take_two_few (l : List UInt8) (p : Int) (h : takeMay l p 2) (h2 : l.length - p < 2) : takeN l p 2 = 0 ∧ takeX l p 2 = 0 ∧ takeE l p 2 = 5 := by
  have h3 : ¬ (2 ≤ l.length - p) := by omega
  simp [takeN, takeX, takeE, h, h3]
theorem take_two_bad (l : List UInt8) (p : Int) (h : ¬ takeMay l p 2) : takeN l p 2 = 0 ∧ takeX l p 2 = 0 ∧ takeE l p 2 = 1 := by
  simp [takeN, takeX, takeE, h]

end Go.Proofs.Ytcpapdpnnlnemaa
