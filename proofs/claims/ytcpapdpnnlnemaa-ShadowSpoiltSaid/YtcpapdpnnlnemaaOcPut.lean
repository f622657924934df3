/- Contracts of octet.Put and of what it calls: each answers as the chapter says and writes nothing that was there; conditions: the lengths that each contract names. -/
import Derived.Test.YtcpapdpnnlnemaaBy
import Derived.Test.YtcpapdpnnlnemaaOctPlain
namespace Go.Proofs.Ytcpapdpnnlnemaa
open Go.RowKit

/-! ### the sizes -/
def sizeE (k : Int) (c : Nat) : MapEntry := { key := .int .i64 k, val := .bool true, born := c }

theorem run_check_int (w : World) (em : Bool) (k : Int) : (Instr.checkKey em 10000 3 (.int .i64 k)).run Try.prog w = .ok () w := by
  rw [show (10000 : Nat) = 9999 + 1 from rfl, Instr.checkKey]
  simp [run_underlying Try.underlying3]

theorem run_find_int (w : World) (k : Int) (l : List MapEntry) (r : Option (Nat × Value)) (hn : Instr.findNow (.int .i64) (.int .i64 k) l 0 = some r) :
    (Instr.findKey 3 (.int .i64 k) l).run Try.prog w = .ok r w := by
  simp [Instr.findKey, run_underlying Try.underlying3, hn]

theorem setObj_new (w : World) (o o' : Obj) : ({ w.alloc o with heap := (w.alloc o).heap.setIfInBounds w.heap.size o' } : World) = w.alloc o' := by
  show ({ w with heap := (w.heap.push o).setIfInBounds w.heap.size o' } : World) = { w with heap := w.heap.push o' }
  congr 1
  apply Array.ext_getElem?
  intro j
  simp only [Array.getElem?_setIfInBounds, Array.getElem?_push, Array.size_push]
  by_cases h : w.heap.size = j
  · subst h; simp
  · simp [h, Ne.symm h]

theorem run_setObj_mapX {w : World} {r : Nat} {es : Array MapEntry} {clock : Nat} (o : Obj) (hb : w.heap[r]? = some (.map es clock)) :
    (setObj r o).run Try.prog w = .ok () { w with heap := w.heap.setIfInBounds r o } := by
  simp [setObj, Sem.run, hb]

theorem run_put_size (w : World) (es : Array MapEntry) (c : Nat) (k : Int) (hn : Instr.findNow (.int .i64) (.int .i64 k) es.toList 0 = some none) :
    (Instr.mapUpdate 94 (.map (some w.heap.size)) (.int .i64 k) (.bool true)).run Try.prog (w.alloc (.map es c)) = .ok () (w.alloc (.map (es.push (sizeE k c)) (c + 1))) := by
  have hm : (w.alloc (.map es c)).heap[w.heap.size]? = some (.map es c) := heap_alloc_new w _
  have h1 := run_getObj_map (P := Try.prog) _ _ _ _ hm
  have h2 := run_setObj_mapX (.map (es.push (sizeE k c)) (c + 1)) hm
  rw [setObj_new] at h2
  have h3 := run_check_int (w.alloc (.map es c)) false k
  have h4 := run_find_int (w.alloc (.map es c)) k es.toList none hn
  unfold Instr.mapUpdate
  simp only [Sem.run_bind, run_underlying Try.underlying94, Result.andThen, h1, h3, h4]
  exact h2

def mayB (n : Int) : Bool := n == 1 || n == 2 || n == 4 || n == 8

theorem run_look_size (w : World) (n : Int) :
    (Instr.lookup 94 (.map (some w.heap.size)) (.int .i64 n) false).run Try.prog (w.alloc (.map #[sizeE 1 0, sizeE 2 1, sizeE 4 2, sizeE 8 3] 4)) =
      .ok (.bool (mayB n)) (w.alloc (.map #[sizeE 1 0, sizeE 2 1, sizeE 4 2, sizeE 8 3] 4)) := by
  have hm : (w.alloc (.map #[sizeE 1 0, sizeE 2 1, sizeE 4 2, sizeE 8 3] 4)).heap[w.heap.size]? = some (.map #[sizeE 1 0, sizeE 2 1, sizeE 4 2, sizeE 8 3] 4) := heap_alloc_new w _
  have h1 := run_getObj_map (P := Try.prog) _ _ _ _ hm
  generalize hW : w.alloc (.map #[sizeE 1 0, sizeE 2 1, sizeE 4 2, sizeE 8 3] 4) = W at *
  have h3 := run_check_int W (#[sizeE 1 0, sizeE 2 1, sizeE 4 2, sizeE 8 3] : Array MapEntry).isEmpty n
  have hf : ∃ r, Instr.findNow (.int .i64) (.int .i64 n) [sizeE 1 0, sizeE 2 1, sizeE 4 2, sizeE 8 3] 0 = some r ∧ (r = none ∧ mayB n = false ∨ ∃ i, r = some (i, .bool true) ∧ mayB n = true) := by
    by_cases a1 : n = 1
    · subst a1; exact ⟨_, rfl, .inr ⟨_, rfl, rfl⟩⟩
    by_cases a2 : n = 2
    · subst a2; exact ⟨_, rfl, .inr ⟨_, rfl, rfl⟩⟩
    by_cases a3 : n = 4
    · subst a3; exact ⟨_, rfl, .inr ⟨_, rfl, rfl⟩⟩
    by_cases a4 : n = 8
    · subst a4; exact ⟨_, rfl, .inr ⟨_, rfl, rfl⟩⟩
    have b1 := beq_eq_false_iff_ne.2 a1
    have b2 := beq_eq_false_iff_ne.2 a2
    have b3 := beq_eq_false_iff_ne.2 a3
    have b4 := beq_eq_false_iff_ne.2 a4
    exact ⟨none, by simp [Instr.findNow, Instr.sameNow, sizeE, b1, b2, b3, b4], .inl ⟨rfl, by simp [mayB, a1, a2, a3, a4]⟩⟩
  obtain ⟨r, hr, hc⟩ := hf
  have h4 := run_find_int W n [sizeE 1 0, sizeE 2 1, sizeE 4 2, sizeE 8 3] r hr
  have h5 : (zeroValue 4).run Try.prog W = .ok (.bool false) W := by kernel_rfl
  unfold Instr.lookup
  simp only [Sem.run_bind, Sem.run_pure, run_underlying Try.underlying94, Result.andThen, h1, h3, h4]
  rcases hc with ⟨rfl, hb⟩ | ⟨i, rfl, hb⟩
  · simp only [Sem.run_bind, Sem.run_pure, Result.andThen, h5, hb]
    rfl
  · simp only [Sem.run_bind, Sem.run_pure, Result.andThen, hb]
    rfl

set_option maxHeartbeats 400000 in
theorem maySize_any (n : Int) (w : World) :
    Calls Try.prog 48 #[.int .i64 n] w fun e w' => e = .returned (.bool (mayB n)) ∧ Below w.heap.size w w' := by
  have hmm := @run_makeMap Try.prog
  have u1 := run_put_size w #[] 0 1 rfl
  have u2 := run_put_size w #[sizeE 1 0] 1 2 rfl
  have u3 := run_put_size w #[sizeE 1 0, sizeE 2 1] 2 4 rfl
  have u4 := run_put_size w #[sizeE 1 0, sizeE 2 1, sizeE 4 2] 3 8 rfl
  have u5 := run_look_size w n
  go_enter Try.func48, Try.ntmps48
  go_wp2
  go_ret
  exact ⟨rfl, (Below.refl _ _).alloc (Nat.le_refl _) _⟩

set_option maxHeartbeats 400000 in
theorem withRoom_any {b : Value} {l : List UInt8} (more : Nat) (w : World) (hb : Bs w b l) (hn : l.length + more ≤ 1099511627776) :
    Calls Try.prog 49 #[b, .int .i64 (more : Int)] w (Gives w l) := by
  obtain ⟨a, cap, rfl, hb⟩ := hb.shape
  obtain ⟨w1, hr, ho, hg⟩ := run_make_bs bt w w.heap.size .i64 .i64 (l.length + more) (by omega) (Nat.le_refl _)
  have hbl : Below w.heap.size w w1 := (Below.refl _ _).grown hg (Nat.le_refl _) (fun _ h => by cases h)
  have hb1 := hb.below hbl
  have hs : ([] : List UInt8).length + l.length ≤ 140737488355328 := by simp; omega
  have hz := hbl.size
  rw [Int.natCast_add] at hr
  go_enter Try.func49, Try.ntmps49
  go_wp2_with (at_builtin; refine wpList_append_bs bt rfl _ _ rfl w.heap.size rfl rfl ho hb1 hs hz ?_; intro v2 w2 ho2 hg2)
  go_ret
  exact ⟨_, rfl, ho2, below_own hbl ho hg2⟩

set_option maxHeartbeats 400000 in
theorem putNumber_any {b : Value} {l : List UInt8} (base n k : Nat) (w : World) (ho : Ow w base 5 b l) (hl : l.length ≤ 1099511627776) (hk : k ≤ 8) (hbase : base ≤ w.heap.size) :
    Calls Try.prog 50 #[b, .int .u64 (n : Int), .int .i64 (k : Int)] w fun e w' => ∃ v, e = .returned v ∧ Ow w' base 5 v (l ++ beL n k) ∧ Below base w w' := by
  go_enter Try.func50, Try.ntmps50
  go_wp2
  go_loopw [0, 7, 9] (fun s j i wr => ∃ r : Nat, r ≤ k ∧ i = .int .i64 r ∧ Ow wr base 5 s (l ++ (beL n k).take r) ∧ Below base w wr) (fun _ _ i _ => k - (intOf i).toNat)
  case atStart => exact ⟨0, by omega, rfl, by simpa using ho, Below.refl _ _⟩
  case round =>
    obtain ⟨r, hr, rfl, hor, hbr⟩ := hrel
    by_cases hlt : r < k
    · have hs : (l ++ (beL n k).take r).length + [UInt8.ofNat (n / 2 ^ (8 * (k - 1 - r)))].length ≤ 140737488355328 := by simp; omega
      have hz : base ≤ (wr.alloc (.cells #[Value.int .u8 ((n : Int) / 2 ^ (8 * (k - 1 - r)) % 256)] 5)).heap.size := by have := hbr.size; simp; omega
      go_wp2_with (at_builtin; (refine wpList_append_bs bt rfl _ _ rfl base rfl rfl (hor.below ((Below.refl _ _).alloc (Nat.le_refl _) _)) (Bs.new1 _ _ _ _ (byte_val n (8 * (k - 1 - r)))) hs hz ?_); intro v2 w2 ho2 hg2)
      go_roundw
      case rel =>
        refine ⟨r + 1, by omega, by go_num, ?_, (hbr.alloc (by have := hbr.size; omega) _).grown hg2 hz (fun j hj => (World.ownsRow.lt hor j hj).1)⟩
        rw [beL_take_succ n k r hlt, ← List.append_assoc]
        exact ho2
      case measure => simp [intOf]; omega
    · obtain rfl : r = k := by omega
      rw [beL_take_all] at hor
      go_wp2
      go_ret
      exact ⟨_, rfl, hor, hbr⟩

/-- What Put answers. -/
def putL (l : List UInt8) (n : Nat) (k : Int) : List UInt8 := if mayB k = true then l ++ beL n k.toNat else l

theorem mayB_true {k : Int} (h : mayB k = true) : 1 ≤ k ∧ k ≤ 8 := by
  simp [mayB] at h
  omega

set_option maxHeartbeats 400000 in
theorem put_any {b : Value} {l : List UInt8} (n : Nat) (k : Int) (w : World) (hb : Bs w b l) (hl : l.length ≤ 1073741824) :
    Calls Try.prog 28 #[b, .int .u64 (n : Int), .int .i64 k] w (Gives w (putL l n k)) := by
  by_cases hk : mayB k = true
  · obtain ⟨k1, k8⟩ := mayB_true hk
    obtain ⟨k, rfl⟩ := Int.eq_ofNat_of_zero_le (show 0 ≤ k by omega)
    have hp : Hid (putL l n (k : Int) = l ++ beL n k) := Lib.hid (by unfold putL; rw [if_pos hk]; rfl)
    go_enter Try.func28, Try.ntmps28
    go_wp2_with fail
    refine (maySize_any _ _).mono ?_
    rintro e w1 ⟨rfl, hb1⟩
    have hbs := hb.below hb1
    go_wp2_with fail
    refine (withRoom_any k _ hbs (by omega)).mono ?_
    rintro e w2 ⟨v, rfl, ho, hb2⟩
    go_wp2_with fail
    refine (putNumber_any w1.heap.size n k _ ho (by omega) (by omega) hb2.size).mono ?_
    rintro e w3 ⟨v3, rfl, ho3, hb3⟩
    go_wp2
    go_ret
    refine ⟨_, rfl, ?_, hb1.trans ((hb2.trans hb3).mono hb1.size)⟩
    rw [hp.out]
    exact ho3.mono hb1.size
  · have hk' : mayB k = false := by simpa using hk
    have hp : Hid (putL l n k = l) := Lib.hid (by unfold putL; rw [if_neg hk])
    clear hk
    go_enter Try.func28, Try.ntmps28
    go_wp2_with fail
    refine (maySize_any _ _).mono ?_
    rintro e w1 ⟨rfl, hb1⟩
    have hbs := hb.below hb1
    go_wp2_with fail
    refine (withRoom_any 0 _ hbs (by omega)).mono ?_
    rintro e w2 ⟨v, rfl, ho, hb2⟩
    go_wp2
    go_ret
    refine ⟨_, rfl, ?_, hb1.trans (hb2.mono hb1.size)⟩
    rw [hp.out]
    exact ho.mono hb1.size

end Go.Proofs.Ytcpapdpnnlnemaa
