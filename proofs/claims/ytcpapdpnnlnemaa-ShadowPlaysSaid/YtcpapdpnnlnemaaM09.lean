/- Contracts of octet.Put and of what it calls: each answers as the chapter says and writes nothing that was there; conditions: the lengths that each contract names. · The contract of octet.Take: it answers as the chapter says and writes nothing that was there; condition: the list is no longer than 2^30. · The contract of octet.TakeBytes: it answers as the chapter says and writes nothing that was there; condition: the list is no longer than 2^30. -/
import Derived.Test.YtcpapdpnnlnemaaM01
import Derived.Test.YtcpapdpnnlnemaaM02
namespace Go.Proofs.Ytcpapdpnnlnemaa
open Go.RowKit

/-! ### the sizes -/
def sizeE (k : Int) (c : Nat) : MapEntry := { key := .int .i64 k, val := .bool true, born := c }

theorem run_check_int (w : World) (em : Bool) (k : Int) : (Instr.checkKey em 10000 3 (.int .i64 k)).run Try.prog w = .ok () w := by
  rw [show (10000 : Nat) = 9999 + 1 from rfl, Instr.checkKey]
  simp [run_underlying Try.underlying3]

theorem run_find_int (w : World) (k : Int) (l : List MapEntry) (r : Option (Nat × Value)) (hn : Instr.findNow (.int .i64) (.int .i64 k) l 0 = some r) :
    (Instr.findKey 3 (.int .i64 k) l).run Try.prog w = .ok r w := by
  simp [Instr.findKey, run_underlying Try.underlying3, hn]

theorem setObj_new (w : World) (o o' : Obj) : ({ w.alloc o with heap := (w.alloc o).heap.setIfInBounds w.heap.size o' } : World) = w.alloc o' := by
  show ({ w with heap := (w.heap.push o).setIfInBounds w.heap.size o' } : World) = { w with heap := w.heap.push o' }
  congr 1
  apply Array.ext_getElem?
  intro j
  simp only [Array.getElem?_setIfInBounds, Array.getElem?_push, Array.size_push]
  by_cases h : w.heap.size = j
  · subst h; simp
  · simp [h, Ne.symm h]

theorem run_setObj_mapX {w : World} {r : Nat} {es : Array MapEntry} {clock : Nat} (o : Obj) (hb : w.heap[r]? = some (.map es clock)) :
    (setObj r o).run Try.prog w = .ok () { w with heap := w.heap.setIfInBounds r o } := by
  simp [setObj, Sem.run, hb]

theorem run_put_size (w : World) (es : Array MapEntry) (c : Nat) (k : Int) (hn : Instr.findNow (.int .i64) (.int .i64 k) es.toList 0 = some none) :
    (Instr.mapUpdate 94 (.map (some w.heap.size)) (.int .i64 k) (.bool true)).run Try.prog (w.alloc (.map es c)) = .ok () (w.alloc (.map (es.push (sizeE k c)) (c + 1))) := by
  have hm : (w.alloc (.map es c)).heap[w.heap.size]? = some (.map es c) := heap_alloc_new w _
  have h1 := run_getObj_map (P := Try.prog) _ _ _ _ hm
  have h2 := run_setObj_mapX (.map (es.push (sizeE k c)) (c + 1)) hm
  rw [setObj_new] at h2
  have h3 := run_check_int (w.alloc (.map es c)) false k
  have h4 := run_find_int (w.alloc (.map es c)) k es.toList none hn
  unfold Instr.mapUpdate
  simp only [Sem.run_bind, run_underlying Try.underlying94, Result.andThen, h1, h3, h4]
  exact h2

def mayB (n : Int) : Bool := n == 1 || n == 2 || n == 4 || n == 8

theorem run_look_size (w : World) (n : Int) :
    (Instr.lookup 94 (.map (some w.heap.size)) (.int .i64 n) false).run Try.prog (w.alloc (.map #[sizeE 1 0, sizeE 2 1, sizeE 4 2, sizeE 8 3] 4)) =
      .ok (.bool (mayB n)) (w.alloc (.map #[sizeE 1 0, sizeE 2 1, sizeE 4 2, sizeE 8 3] 4)) := by
  have hm : (w.alloc (.map #[sizeE 1 0, sizeE 2 1, sizeE 4 2, sizeE 8 3] 4)).heap[w.heap.size]? = some (.map #[sizeE 1 0, sizeE 2 1, sizeE 4 2, sizeE 8 3] 4) := heap_alloc_new w _
  have h1 := run_getObj_map (P := Try.prog) _ _ _ _ hm
  generalize hW : w.alloc (.map #[sizeE 1 0, sizeE 2 1, sizeE 4 2, sizeE 8 3] 4) = W at *
  have h3 := run_check_int W (#[sizeE 1 0, sizeE 2 1, sizeE 4 2, sizeE 8 3] : Array MapEntry).isEmpty n
  have hf : ∃ r, Instr.findNow (.int .i64) (.int .i64 n) [sizeE 1 0, sizeE 2 1, sizeE 4 2, sizeE 8 3] 0 = some r ∧ (r = none ∧ mayB n = false ∨ ∃ i, r = some (i, .bool true) ∧ mayB n = true) := by
    by_cases a1 : n = 1
    · subst a1; exact ⟨_, rfl, .inr ⟨_, rfl, rfl⟩⟩
    by_cases a2 : n = 2
    · subst a2; exact ⟨_, rfl, .inr ⟨_, rfl, rfl⟩⟩
    by_cases a3 : n = 4
    · subst a3; exact ⟨_, rfl, .inr ⟨_, rfl, rfl⟩⟩
    by_cases a4 : n = 8
    · subst a4; exact ⟨_, rfl, .inr ⟨_, rfl, rfl⟩⟩
    have b1 := beq_eq_false_iff_ne.2 a1
    have b2 := beq_eq_false_iff_ne.2 a2
    have b3 := beq_eq_false_iff_ne.2 a3
    have b4 := beq_eq_false_iff_ne.2 a4
    exact ⟨none, by simp [Instr.findNow, Instr.sameNow, sizeE, b1, b2, b3, b4], .inl ⟨rfl, by simp [mayB, a1, a2, a3, a4]⟩⟩
  obtain ⟨r, hr, hc⟩ := hf
  have h4 := run_find_int W n [sizeE 1 0, sizeE 2 1, sizeE 4 2, sizeE 8 3] r hr
  have h5 : (zeroValue 4).run Try.prog W = .ok (.bool false) W := by kernel_rfl
  unfold Instr.lookup
  simp only [Sem.run_bind, Sem.run_pure, run_underlying Try.underlying94, Result.andThen, h1, h3, h4]
  rcases hc with ⟨rfl, hb⟩ | ⟨i, rfl, hb⟩
  · simp only [Sem.run_bind, Sem.run_pure, Result.andThen, h5, hb]
    rfl
  · simp only [Sem.run_bind, Sem.run_pure, Result.andThen, hb]
    rfl

set_option maxHeartbeats 400000 in
theorem maySize_any (n : Int) (w : World) :
    Calls Try.prog 48 #[.int .i64 n] w fun e w' => e = .returned (.bool (mayB n)) ∧ Below w.heap.size w w' := by
  have hmm := @run_makeMap Try.prog
  have u1 := run_put_size w #[] 0 1 rfl
  have u2 := run_put_size w #[sizeE 1 0] 1 2 rfl
  have u3 := run_put_size w #[sizeE 1 0, sizeE 2 1] 2 4 rfl
  have u4 := run_put_size w #[sizeE 1 0, sizeE 2 1, sizeE 4 2] 3 8 rfl
  have u5 := run_look_size w n
  go_enter Try.func48, Try.ntmps48
  go_wp2
  go_ret
  exact ⟨rfl, (Below.refl _ _).alloc (Nat.le_refl _) _⟩

set_option maxHeartbeats 400000 in
theorem withRoom_any {b : Value} {l : List UInt8} (more : Nat) (w : World) (hb : Bs w b l) (hn : l.length + more ≤ 1099511627776) :
    Calls Try.prog 49 #[b, .int .i64 (more : Int)] w (Gives w l) := by
  obtain ⟨a, cap, rfl, hb⟩ := hb.shape
  obtain ⟨w1, hr, ho, hg⟩ := run_make_bs bt w w.heap.size .i64 .i64 (l.length + more) (by omega) (Nat.le_refl _)
  have hbl : Below w.heap.size w w1 := (Below.refl _ _).grown hg (Nat.le_refl _) (fun _ h => by cases h)
  have hb1 := hb.below hbl
  have hs : ([] : List UInt8).length + l.length ≤ 140737488355328 := by simp; omega
  have hz := hbl.size
  rw [Int.natCast_add] at hr
  go_enter Try.func49, Try.ntmps49
  go_wp2_with (at_builtin; refine wpList_append_bs bt rfl _ _ rfl w.heap.size rfl rfl ho hb1 hs hz ?_; intro v2 w2 ho2 hg2)
  go_ret
  exact ⟨_, rfl, ho2, below_own hbl ho hg2⟩

set_option maxHeartbeats 400000 in
theorem putNumber_any {b : Value} {l : List UInt8} (base n k : Nat) (w : World) (ho : Ow w base 5 b l) (hl : l.length ≤ 1099511627776) (hk : k ≤ 8) (hbase : base ≤ w.heap.size) :
    Calls Try.prog 50 #[b, .int .u64 (n : Int), .int .i64 (k : Int)] w fun e w' => ∃ v, e = .returned v ∧ Ow w' base 5 v (l ++ beL n k) ∧ Below base w w' := by
  go_enter Try.func50, Try.ntmps50
  go_wp2
  go_loopw [0, 7, 9] (fun s j i wr => ∃ r : Nat, r ≤ k ∧ i = .int .i64 r ∧ Ow wr base 5 s (l ++ (beL n k).take r) ∧ Below base w wr) (fun _ _ i _ => k - (intOf i).toNat)
  case atStart => exact ⟨0, by omega, rfl, by simpa using ho, Below.refl _ _⟩
  case round =>
    obtain ⟨r, hr, rfl, hor, hbr⟩ := hrel
    by_cases hlt : r < k
    · have hs : (l ++ (beL n k).take r).length + [UInt8.ofNat (n / 2 ^ (8 * (k - 1 - r)))].length ≤ 140737488355328 := by simp; omega
      have hz : base ≤ (wr.alloc (.cells #[Value.int .u8 ((n : Int) / 2 ^ (8 * (k - 1 - r)) % 256)] 5)).heap.size := by have := hbr.size; simp; omega
      go_wp2_with (at_builtin; (refine wpList_append_bs bt rfl _ _ rfl base rfl rfl (hor.below ((Below.refl _ _).alloc (Nat.le_refl _) _)) (Bs.new1 _ _ _ _ (byte_val n (8 * (k - 1 - r)))) hs hz ?_); intro v2 w2 ho2 hg2)
      go_roundw
      case rel =>
        refine ⟨r + 1, by omega, by go_num, ?_, (hbr.alloc (by have := hbr.size; omega) _).grown hg2 hz (fun j hj => (World.ownsRow.lt hor j hj).1)⟩
        rw [beL_take_succ n k r hlt, ← List.append_assoc]
        exact ho2
      case measure => simp [intOf]; omega
    · obtain rfl : r = k := by omega
      rw [beL_take_all] at hor
      go_wp2
      go_ret
      exact ⟨_, rfl, hor, hbr⟩

/-- What Put answers. -/
def putL (l : List UInt8) (n : Nat) (k : Int) : List UInt8 := if mayB k = true then l ++ beL n k.toNat else l

theorem mayB_true {k : Int} (h : mayB k = true) : 1 ≤ k ∧ k ≤ 8 := by
  simp [mayB] at h
  omega

set_option maxHeartbeats 400000 in
theorem put_any {b : Value} {l : List UInt8} (n : Nat) (k : Int) (w : World) (hb : Bs w b l) (hl : l.length ≤ 1073741824) :
    Calls Try.prog 28 #[b, .int .u64 (n : Int), .int .i64 k] w (Gives w (putL l n k)) := by
  by_cases hk : mayB k = true
  · obtain ⟨k1, k8⟩ := mayB_true hk
    obtain ⟨k, rfl⟩ := Int.eq_ofNat_of_zero_le (show 0 ≤ k by omega)
    have hp : Hid (putL l n (k : Int) = l ++ beL n k) := Lib.hid (by unfold putL; rw [if_pos hk]; rfl)
    go_enter Try.func28, Try.ntmps28
    go_wp2_with fail
    refine (maySize_any _ _).mono ?_
    rintro e w1 ⟨rfl, hb1⟩
    have hbs := hb.below hb1
    go_wp2_with fail
    refine (withRoom_any k _ hbs (by omega)).mono ?_
    rintro e w2 ⟨v, rfl, ho, hb2⟩
    go_wp2_with fail
    refine (putNumber_any w1.heap.size n k _ ho (by omega) (by omega) hb2.size).mono ?_
    rintro e w3 ⟨v3, rfl, ho3, hb3⟩
    go_wp2
    go_ret
    refine ⟨_, rfl, ?_, hb1.trans ((hb2.trans hb3).mono hb1.size)⟩
    rw [hp.out]
    exact ho3.mono hb1.size
  · have hk' : mayB k = false := by simpa using hk
    have hp : Hid (putL l n k = l) := Lib.hid (by unfold putL; rw [if_neg hk])
    clear hk
    go_enter Try.func28, Try.ntmps28
    go_wp2_with fail
    refine (maySize_any _ _).mono ?_
    rintro e w1 ⟨rfl, hb1⟩
    have hbs := hb.below hb1
    go_wp2_with fail
    refine (withRoom_any 0 _ hbs (by omega)).mono ?_
    rintro e w2 ⟨v, rfl, ho, hb2⟩
    go_wp2
    go_ret
    refine ⟨_, rfl, ?_, hb1.trans (hb2.mono hb1.size)⟩
    rw [hp.out]
    exact ho.mono hb1.size

end Go.Proofs.Ytcpapdpnnlnemaa
namespace Go.Proofs.Ytcpapdpnnlnemaa
open Go.RowKit

/-! ### Take -/
/-- May a number be taken? -/
def takeMay (l : List UInt8) (p k : Int) : Prop := mayB k = true ∧ 0 ≤ p ∧ p ≤ l.length
instance (l : List UInt8) (p k : Int) : Decidable (takeMay l p k) := by unfold takeMay; exact inferInstance
def takeN (l : List UInt8) (p k : Int) : Nat := if takeMay l p k ∧ k ≤ l.length - p then beNat ((l.drop p.toNat).take k.toNat) else 0
def takeX (l : List UInt8) (p k : Int) : Int := if takeMay l p k ∧ k ≤ l.length - p then p + k else 0
def takeE (l : List UInt8) (p k : Int) : Int := if takeMay l p k then (if k ≤ l.length - p then 0 else 5) else 1
/-- What Take answers. -/
def Takes (w : World) (l : List UInt8) (p k : Int) (e : Ending) (w' : World) : Prop :=
  e = .returned (.tuple #[.int .u64 (takeN l p k), .int .i64 (takeX l p k), .int .i64 (takeE l p k)]) ∧ Below w.heap.size w w'

theorem takes_bad {w w' : World} {l : List UInt8} {p k : Int} (h : ¬ takeMay l p k) (hb : Below w.heap.size w w') :
    Takes w l p k (.returned (.tuple #[.int .u64 0, .int .i64 0, .int .i64 1])) w' := by
  refine ⟨?_, hb⟩
  simp [takeN, takeX, takeE, h]

theorem takes_few {w w' : World} {l : List UInt8} {p k : Int} (h : takeMay l p k) (h2 : l.length - p < k) (hb : Below w.heap.size w w') :
    Takes w l p k (.returned (.tuple #[.int .u64 0, .int .i64 0, .int .i64 5])) w' := by
  refine ⟨?_, hb⟩
  have h2' : ¬ k ≤ l.length - p := by omega
  simp [takeN, takeX, takeE, h, h2']

theorem takes_ok {w w' : World} {l : List UInt8} {p k : Nat} (h : takeMay l p k) (h2 : (k : Int) ≤ l.length - p) (hb : Below w.heap.size w w') :
    Takes w l p k (.returned (.tuple #[.int .u64 ((beNat ((l.take (p + k)).drop p) : Nat) : Int), .int .i64 ((p : Int) + k), .int .i64 0])) w' := by
  refine ⟨?_, hb⟩
  have e : (l.take (p + k)).drop p = (l.drop p).take k := by rw [List.take_drop]
  simp [takeN, takeX, takeE, h, h2, e]

set_option maxHeartbeats 400000 in
theorem take_any {b : Value} {l : List UInt8} (p k : Int) (w : World) (hb : Bs w b l) (hl : l.length ≤ 1073741824) :
    Calls Try.prog 64 #[b, .int .i64 p, .int .i64 k] w (Takes w l p k) := by
  obtain ⟨a, cap, rfl, hb⟩ := hb.shape
  by_cases hk : mayB k = true
  · by_cases h0 : 0 ≤ p
    · by_cases h1 : p ≤ l.length
      · have hm : takeMay l p k := ⟨hk, h0, h1⟩
        obtain ⟨k1, k8⟩ := mayB_true hk
        obtain ⟨k, rfl⟩ := Int.eq_ofNat_of_zero_le (show 0 ≤ k by omega)
        obtain ⟨p, rfl⟩ := Int.eq_ofNat_of_zero_le h0
        by_cases h2 : (k : Int) ≤ l.length - p
        · have c1 : ¬ (p : Int) < 0 := by omega
          have c2 : ¬ (l.length : Int) < p := by omega
          have c3 : ¬ (l.length : Int) - p < k := by omega
          have fin := fun (w' : World) (hb' : Below w.heap.size w w') => takes_ok (w' := w') hm h2 hb'
          obtain ⟨v, hv, hbv⟩ := run_slice_bs bt w hb .i64 .i64 p (p + k) (by omega) (by omega)
          have hlen : ((l.take (p + k)).drop p).length = k := by simp; omega
          generalize (l.take (p + k)).drop p = m at *
          obtain ⟨b, o, cap', rfl, hcap, hbs, hcell⟩ := hbv.open (by omega)
          rw [hlen] at hv
          rw [Int.natCast_add] at hv
          have Hlen := Lib.hid hlen
          have Hfin := Lib.hid fin
          have Hcell := Lib.hid hcell
          clear hlen fin hcell hbv hm
          go_enter Try.func64, Try.ntmps64
          go_wp2_with fail
          refine (maySize_any _ _).mono ?_
          rintro e w1 ⟨rfl, hb1⟩
          go_wp2
          go_loop [6, 10, 38] (fun n x i => ∃ r : Nat, r ≤ k ∧ i = .int .i64 r ∧ n = .int .u64 ((beNat (m.take r) : Nat) : Int)) (fun _ _ i => k - (intOf i).toNat)
          case atStart => exact ⟨0, by omega, rfl, by simp [beNat]⟩
          case round =>
            obtain ⟨r, hr, rfl, rfl⟩ := hrel
            by_cases hlt : r < k
            · obtain ⟨x, hx⟩ : ∃ x, m[r]? = some x := ⟨_, List.getElem?_eq_getElem (by have := Hlen.out; omega)⟩
              have hc := (hb1.cell (p := ⟨b, o + r, none⟩) (by exact hbs)).trans (Hcell.out r x hx)
              have hbd : beNat (m.take r) < 72057594037927936 := by
                have h := beNat_lt (m.take r)
                have : (256 : Nat) ^ (m.take r).length ≤ 256 ^ 7 := Nat.pow_le_pow_right (by omega) (by have := List.length_take_le r m; omega)
                omega
              have hxb := x.toNat_lt
              have Hx := Lib.hid hx
              clear hx
              go_wp2
              go_round
              case rel =>
                refine ⟨r + 1, by omega, by go_num, ?_⟩
                rw [beNat_take_succ m r x Hx.out, or_byte _ x hbd]
              case measure => simp [intOf]; omega
            · obtain rfl : r = k := by omega
              have e : m.take r = m := List.take_of_length_le (by have := Hlen.out; omega)
              rw [e]
              clear e
              go_wp2
              go_ret3
              exact Hfin.out _ hb1
        · have c1 : ¬ (p : Int) < 0 := by omega
          have c2 : ¬ (l.length : Int) < p := by omega
          go_enter Try.func64, Try.ntmps64
          go_wp2_with fail
          refine (maySize_any _ _).mono ?_
          rintro e w1 ⟨rfl, hb1⟩
          go_wp2
          go_ret3
          exact takes_few hm (by omega) hb1
      · have hm : ¬ takeMay l p k := fun h => h1 h.2.2
        have c1 : ¬ p < 0 := by omega
        go_enter Try.func64, Try.ntmps64
        go_wp2_with fail
        refine (maySize_any _ _).mono ?_
        rintro e w1 ⟨rfl, hb1⟩
        go_wp2
        go_ret3
        exact takes_bad hm hb1
    · have hm : ¬ takeMay l p k := fun h => h0 h.2.1
      go_enter Try.func64, Try.ntmps64
      go_wp2_with fail
      refine (maySize_any _ _).mono ?_
      rintro e w1 ⟨rfl, hb1⟩
      go_wp2
      go_ret3
      exact takes_bad hm hb1
  · have hm : ¬ takeMay l p k := fun h => hk h.1
    have hk' : mayB k = false := by simpa using hk
    clear hk
    go_enter Try.func64, Try.ntmps64
    go_wp2_with fail
    refine (maySize_any _ _).mono ?_
    rintro e w1 ⟨rfl, hb1⟩
    go_wp2
    go_ret3
    exact takes_bad hm hb1

/-! ### TakeBytes -/
def tbN (l : List UInt8) (p : Int) : Nat := beNat ((l.drop p.toNat).take 2)
def tbOk (l : List UInt8) (p : Int) : Prop := takeMay l p 2 ∧ 2 + (tbN l p : Int) ≤ l.length - p
instance (l : List UInt8) (p : Int) : Decidable (tbOk l p) := by unfold tbOk; exact inferInstance
def tbL (l : List UInt8) (p : Int) : List UInt8 := if tbOk l p then (l.drop (p.toNat + 2)).take (tbN l p) else []
def tbX (l : List UInt8) (p : Int) : Int := if tbOk l p then p + 2 + tbN l p else 0
def tbE (l : List UInt8) (p : Int) : Int := if takeMay l p 2 then (if tbOk l p then 0 else 5) else 1
/-- What TakeBytes answers. -/
def TakesB (w : World) (l : List UInt8) (p : Int) (e : Ending) (w' : World) : Prop :=
  ∃ v, e = .returned (.tuple #[v, .int .i64 (tbX l p), .int .i64 (tbE l p)]) ∧ Ow w' w.heap.size 5 v (tbL l p) ∧ Below w.heap.size w w'

theorem takesB_bad {w w' : World} {l : List UInt8} {p : Int} (h : ¬ takeMay l p 2) (hb : Below w.heap.size w w') :
    TakesB w l p (.returned (.tuple #[.slice none 0 0, .int .i64 0, .int .i64 1])) w' := by
  have h2 : ¬ tbOk l p := fun q => h q.1
  refine ⟨.slice none 0 0, by simp [tbX, tbE, h, h2], ?_, hb⟩
  simp only [tbL, h2, if_false]
  exact World.ownsRow_nil _ _ _ _

theorem takesB_few {w w' : World} {l : List UInt8} {p : Int} (h : takeMay l p 2) (h2 : ¬ tbOk l p) (hb : Below w.heap.size w w') :
    TakesB w l p (.returned (.tuple #[.slice none 0 0, .int .i64 0, .int .i64 5])) w' := by
  refine ⟨.slice none 0 0, by simp [tbX, tbE, h, h2], ?_, hb⟩
  simp only [tbL, h2, if_false]
  exact World.ownsRow_nil _ _ _ _

theorem takesB_ok {w w' : World} {l : List UInt8} {p : Nat} {v : Value} (h2 : tbOk l p) (ho : Ow w' w.heap.size 5 v ((l.take (p + 2 + tbN l p)).drop (p + 2))) (hb : Below w.heap.size w w') :
    TakesB w l p (.returned (.tuple #[v, .int .i64 ((p : Int) + 2 + (tbN l p : Int)), .int .i64 0])) w' := by
  have h := h2.1
  refine ⟨v, by simp [tbX, tbE, h, h2], ?_, hb⟩
  simp only [tbL, h2, if_true]
  rw [List.take_drop]
  exact ho

theorem take_two_lt (l : List UInt8) (p : Int) : tbN l p < 65536 := by
  have h := beNat_lt ((l.drop p.toNat).take 2)
  have : (256 : Nat) ^ ((l.drop p.toNat).take 2).length ≤ 256 ^ 2 := Nat.pow_le_pow_right (by omega) (List.length_take_le _ _)
  unfold tbN
  omega

theorem take_two (l : List UInt8) (p : Int) (h : takeMay l p 2) (h2 : 2 ≤ l.length - p) : takeN l p 2 = tbN l p ∧ takeX l p 2 = p + 2 ∧ takeE l p 2 = 0 := by
  have h' : takeMay l p 2 ∧ 2 ≤ l.length - p := ⟨h, h2⟩
  simp [takeN, takeX, takeE, tbN, h']
theorem take_two_few (l : List UInt8) (p : Int) (h : takeMay l p 2) (h2 : l.length - p < 2) : takeN l p 2 = 0 ∧ takeX l p 2 = 0 ∧ takeE l p 2 = 5 := by
  have h3 : ¬ (2 ≤ l.length - p) := by omega
  simp [takeN, takeX, takeE, h, h3]
theorem take_two_bad (l : List UInt8) (p : Int) (h : ¬ takeMay l p 2) : takeN l p 2 = 0 ∧ takeX l p 2 = 0 ∧ takeE l p 2 = 1 := by
  simp [takeN, takeX, takeE, h]

end Go.Proofs.Ytcpapdpnnlnemaa
namespace Go.Proofs.Ytcpapdpnnlnemaa
open Go.RowKit

set_option maxHeartbeats 400000 in
theorem takeBytes_bad {b : Value} {l : List UInt8} (p : Int) (w : World) (hb : Bs w b l) (hl : l.length ≤ 1073741824) (hm : ¬ takeMay l p 2) :
    Calls Try.prog 72 #[b, .int .i64 p] w (TakesB w l p) := by
  obtain ⟨a, cap, rfl, hb⟩ := hb.shape
  obtain ⟨t1, t2, t3⟩ := take_two_bad l p hm
  have T1 := Lib.hid t1
  have T2 := Lib.hid t2
  have T3 := Lib.hid t3
  clear t1 t2 t3
  go_enter Try.func72, Try.ntmps72
  go_wp2_with fail
  refine (take_any _ _ _ hb (by omega)).mono ?_
  rintro e w1 ⟨he, hb1⟩
  rw [T1.out, T2.out, T3.out] at he
  subst he
  go_wp2
  go_ret3
  exact takesB_bad hm hb1

set_option maxHeartbeats 400000 in
theorem takeBytes_few {b : Value} {l : List UInt8} (p : Int) (w : World) (hb : Bs w b l) (hl : l.length ≤ 1073741824) (hm : takeMay l p 2) (h2 : ¬ 2 ≤ l.length - p) :
    Calls Try.prog 72 #[b, .int .i64 p] w (TakesB w l p) := by
  obtain ⟨a, cap, rfl, hb⟩ := hb.shape
  obtain ⟨t1, t2, t3⟩ := take_two_few l p hm (by omega)
  have hok : ¬ tbOk l p := fun q => h2 (by have := q.2; omega)
  have T1 := Lib.hid t1
  have T2 := Lib.hid t2
  have T3 := Lib.hid t3
  clear t1 t2 t3
  go_enter Try.func72, Try.ntmps72
  go_wp2_with fail
  refine (take_any _ _ _ hb (by omega)).mono ?_
  rintro e w1 ⟨he, hb1⟩
  rw [T1.out, T2.out, T3.out] at he
  subst he
  go_wp2
  go_ret3
  exact takesB_few hm hok hb1

set_option maxHeartbeats 400000 in
theorem takeBytes_cut {b : Value} {l : List UInt8} (p : Nat) (w : World) (hb : Bs w b l) (hl : l.length ≤ 1073741824) (hm : takeMay l p 2) (h2 : 2 ≤ (l.length : Int) - p) (h3 : ¬ 2 + (tbN l p : Int) ≤ l.length - p) :
    Calls Try.prog 72 #[b, .int .i64 (p : Int)] w (TakesB w l p) := by
  obtain ⟨a, cap, rfl, hb⟩ := hb.shape
  obtain ⟨t1, t2, t3⟩ := take_two l p hm h2
  have htn := take_two_lt l p
  have hok : ¬ tbOk l p := fun q => h3 q.2
  have fin := fun (w' : World) (hb' : Below w.heap.size w w') => takesB_few (w' := w') hm hok hb'
  generalize tbN l p = n at *
  have T1 := Lib.hid t1
  have T2 := Lib.hid t2
  have T3 := Lib.hid t3
  have Hfin := Lib.hid fin
  have h4 : (l.length : Int) - (p + 2) < n := by omega
  have hp : (p : Int) ≤ 1073741824 := by omega
  clear t1 t2 t3 fin hm hok
  go_enter Try.func72, Try.ntmps72
  go_wp2_with fail
  refine (take_any _ _ _ hb (by omega)).mono ?_
  rintro e w1 ⟨he, hb1⟩
  rw [T1.out, T2.out, T3.out] at he
  subst he
  go_wp2
  go_ret3
  exact Hfin.out _ hb1

set_option maxHeartbeats 400000 in
theorem takeBytes_ok {b : Value} {l : List UInt8} (p : Nat) (w : World) (hb : Bs w b l) (hl : l.length ≤ 1073741824) (hm : takeMay l p 2) (h2 : 2 ≤ (l.length : Int) - p) (h3 : 2 + (tbN l p : Int) ≤ l.length - p) :
    Calls Try.prog 72 #[b, .int .i64 (p : Int)] w (TakesB w l p) := by
  obtain ⟨a, cap, rfl, hb⟩ := hb.shape
  obtain ⟨t1, t2, t3⟩ := take_two l p hm h2
  have htn := take_two_lt l p
  have hok : tbOk l p := ⟨hm, h3⟩
  have fin := fun (w' : World) (v : Value) ho (hb' : Below w.heap.size w w') => takesB_ok (w' := w') (v := v) hok ho hb'
  obtain ⟨v, hv, hbv⟩ := run_slice_bs bt w hb .i64 .i64 (p + 2) (p + 2 + tbN l p) (by omega) (by omega)
  have hlen : ((l.take (p + 2 + tbN l p)).drop (p + 2)).length ≤ 1073741824 := by simp; omega
  have hp : (p : Int) ≤ 1073741824 := by omega
  generalize (l.take (p + 2 + tbN l p)).drop (p + 2) = m at *
  generalize tbN l p = n at *
  have T1 := Lib.hid t1
  have T2 := Lib.hid t2
  have T3 := Lib.hid t3
  have Hfin := Lib.hid fin
  simp only [Int.natCast_add, Int.cast_ofNat_Int] at hv
  have h4 : ¬ (l.length : Int) - (p + 2) < n := by omega
  clear t1 t2 t3 fin hm hok
  go_enter Try.func72, Try.ntmps72
  go_wp2_with fail
  refine (take_any _ _ _ hb (by omega)).mono ?_
  rintro e w1 ⟨he, hb1⟩
  rw [T1.out, T2.out, T3.out] at he
  subst he
  go_wp2_with fail

  refine (withRoom_any 0 _ (hbv.below hb1) (by omega)).mono ?_
  rintro e w2 ⟨v2, rfl, ho2, hb2⟩
  go_wp2
  go_ret3
  exact Hfin.out _ _ (ho2.mono hb1.size) (hb1.trans (hb2.mono hb1.size))

theorem takeBytes_any {b : Value} {l : List UInt8} (p : Int) (w : World) (hb : Bs w b l) (hl : l.length ≤ 1073741824) :
    Calls Try.prog 72 #[b, .int .i64 p] w (TakesB w l p) := by
  by_cases hm : takeMay l p 2
  · by_cases h2 : 2 ≤ l.length - p
    · obtain ⟨p, rfl⟩ := Int.eq_ofNat_of_zero_le hm.2.1
      by_cases h3 : 2 + (tbN l p : Int) ≤ l.length - p
      · exact takeBytes_ok p w hb hl hm h2 h3
      · exact takeBytes_cut p w hb hl hm h2 h3
    · exact takeBytes_few p w hb hl hm h2
  · exact takeBytes_bad p w hb hl hm
end Go.Proofs.Ytcpapdpnnlnemaa
