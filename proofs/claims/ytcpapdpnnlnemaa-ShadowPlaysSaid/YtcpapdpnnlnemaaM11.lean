/- Contracts of the document's answers for layer 2: each answers as the chapter says and writes nothing that was there; conditions: the lengths that each contract names. · The contract of the document's Put (layer 1): it answers as the chapter says and writes nothing that was there; condition: the length that it names. · Contracts of the document's answers for layer 4: each answers as the chapter says and writes nothing that was there; conditions: the lengths that each contract names. · The contract of the document's Open (layer 4): it answers as the chapter says and writes nothing that was there; no condition. · The anchor of the statements of layer 4 (the chapter's examples) and their small helpers: each answers as it says and writes nothing that was there; conditions: the lengths that each contract names. · The helper of the statements of layer 4 that turns all bytes of an own row: it writes nothing but that row; no condition. -/
import Derived.Test.YtcpapdpnnlnemaaM02
import Derived.Test.YtcpapdpnnlnemaaM09
import Derived.Deep.QuietTactic
import Derived.BigQuiet
import Derived.Test.YtcpapdpnnlnemaaM10
namespace Go.Proofs.Ytcpapdpnnlnemaa
open Go.RowKit

set_option maxHeartbeats 400000 in
theorem crcRefTake_any (n : Nat) (c : UInt8) (w : World) (hn : n < 4294967296) :
    Calls Try.prog 67 #[.int .u32 (n : Int), .int .u8 (c.toNat : Int)] w fun e w' => e = .returned (.int .u32 (takN n c.toNat : Nat)) ∧ w = w' := by
  have h1 := byte_xor n c hn
  have hx : n ^^^ c.toNat < 4294967296 := Nat.xor_lt_two_pow (n := 32) hn (by have := c.toNat_lt; omega)
  have hc := c.toNat_lt
  unfold takN
  generalize n ^^^ c.toNat = x at *
  generalize c.toNat = c at *
  go_enter Try.func67, Try.ntmps67
  go_wp2
  go_loopw [0, 5, 6] (fun s i _ wr => ∃ r : Nat, r ≤ 8 ∧ i = .int .i64 r ∧ s = .int .u32 (steps r x : Nat) ∧ w = wr) (fun _ i _ _ => 8 - (intOf i).toNat)
  case atStart => exact ⟨0, by omega, rfl, rfl, rfl⟩
  case round =>
    obtain ⟨r, hr, rfl, rfl, rfl⟩ := hrel
    by_cases hlt : r < 8
    · have hy := steps_lt r hx
      have hsl := steps_last r x
      generalize hyy : steps r x = y at *
      clear hyy
      have h2 := half_xor y hy
      by_cases hp : y % 2 = 1
      · have hs := stepN_odd hp
        have hq : (((y : Int) % 2) == 1) = true := by rw [beq_iff_eq]; omega
        have H := Lib.hid (And.intro hsl hs)
        clear hsl hs hp
        go_wp2
        go_roundw
        case rel => exact ⟨r + 1, by omega, by go_num, by rw [H.out.1, H.out.2], by trivial⟩
        case measure => simp [intOf]; omega
      · have hs := stepN_even hp
        have hq : (((y : Int) % 2) == 1) = false := by rw [beq_eq_false_iff_ne]; omega
        have H := Lib.hid (And.intro hsl hs)
        clear hsl hs hp
        go_wp2
        go_roundw
        case rel => exact ⟨r + 1, by omega, by go_num, by rw [H.out.1, H.out.2]; rfl, by trivial⟩
        case measure => simp [intOf]; omega
    · obtain rfl : r = 8 := by omega
      go_wp2
      go_ret
      exact ⟨rfl, rfl⟩

set_option maxHeartbeats 400000 in
theorem refMore_any {b : Value} {l : List UInt8} (s : Nat) (w : World) (hb : Bs w b l) (hs : s < 4294967296) :
    Calls Try.prog 60 #[.int .u32 (s : Int), b] w fun e w' => e = .returned (.int .u32 (moreN s l : Nat)) ∧ w = w' := by
  obtain ⟨a, cap, rfl, hb⟩ := hb.shape
  have h1 := not_u32 s hs
  have h2 := not_u32 (foldN (notN s) l) (foldN_lt l (notN_lt hs))
  have hn := notN_lt hs
  have hlen := hb.len
  unfold moreN
  generalize notN s = f at *
  generalize hm : notN (foldN f l) = m at *
  clear hm
  go_enter Try.func60, Try.ntmps60
  go_wp2
  go_loopw [5, 6] (fun s i wr => ∃ r : Nat, r ≤ l.length ∧ i = .int .i64 r ∧ s = .int .u32 (foldN f (l.take r) : Nat) ∧ w = wr) (fun _ i _ => l.length - (intOf i).toNat)
  case atStart => exact ⟨0, by omega, rfl, rfl, rfl⟩
  case round =>
    obtain ⟨r, hr, rfl, rfl, rfl⟩ := hrel
    by_cases hlt : r < l.length
    · obtain ⟨b0, o0, cap0, e0, q0, hb0, hcells⟩ := hb.open (by omega)
      simp only [Value.slice.injEq] at e0
      obtain ⟨rfl, _, rfl⟩ := e0
      obtain ⟨x, hx⟩ : ∃ x, l[r]? = some x := ⟨_, List.getElem?_eq_getElem hlt⟩
      have hcell := hcells r x hx
      have hf := foldN_lt (l.take r) hn
      have hsn : foldN f (l.take (r + 1)) = takN (foldN f (l.take r)) x.toNat := by
        rw [List.take_add_one, hx]
        exact foldN_snoc _ _ _
      have H := Lib.hid (And.intro hx hsn)
      clear hx hsn hcells
      go_wp2_with fail
      refine (crcRefTake_any _ x _ hf).mono ?_
      rintro e w1 ⟨rfl, rfl⟩
      go_wp2
      go_roundw
      case rel => exact ⟨r + 1, by omega, by go_num, by rw [H.out.2], by trivial⟩
      case measure => simp [intOf]; omega
    · obtain rfl : r = l.length := by omega
      rw [List.take_length]
      go_wp2
      go_ret
      exact ⟨rfl, rfl⟩

set_option maxHeartbeats 400000 in
theorem refSum_any {b : Value} {l : List UInt8} (w : World) (hb : Bs w b l) :
    Calls Try.prog 53 #[b] w fun e w' => e = .returned (.int .u32 (sumN l : Nat)) ∧ w = w' := by
  go_enter Try.func53, Try.ntmps53
  go_wp2_with fail
  refine (refMore_any 0 _ hb (by decide)).mono ?_
  rintro e w1 ⟨rfl, rfl⟩
  go_wp2
  go_ret
  exact ⟨rfl, rfl⟩

theorem or_four (x0 x1 x2 x3 : UInt8) : bits .or .u32 (bits .or .u32 (bits .or .u32 (x0.toNat : Int) ((x1.toNat : Int) * 256)) ((x2.toNat : Int) * 65536)) ((x3.toNat : Int) * 16777216) = ((leN [x0, x1, x2, x3] : Nat) : Int) := by
  have t1 := leN_take_succ [x0, x1, x2, x3] 1 x1 rfl
  have t2 := leN_take_succ [x0, x1, x2, x3] 2 x2 rfl
  have t3 := leN_take_succ [x0, x1, x2, x3] 3 x3 rfl
  have l1 := leN_take_lt [x0, x1, x2, x3] 1 (by simp)
  have l2 := leN_take_lt [x0, x1, x2, x3] 2 (by simp)
  have l3 := leN_take_lt [x0, x1, x2, x3] 3 (by simp)
  have b1 := byte_shl x1 1 (by decide)
  have b2 := byte_shl x2 2 (by decide)
  have b3 := byte_shl x3 3 (by decide)
  have z : leN (List.take 1 [x0, x1, x2, x3]) = x0.toNat := by show x0.toNat + 256 * 0 = _; omega
  have e1 : (x1.toNat : Int) * 256 = ((x1.toNat * 2 ^ (8 * 1) : Nat) : Int) := by omega
  have e2 : (x2.toNat : Int) * 65536 = ((x2.toNat * 2 ^ (8 * 2) : Nat) : Int) := by omega
  have e3 : (x3.toNat : Int) * 16777216 = ((x3.toNat * 2 ^ (8 * 3) : Nat) : Int) := by omega
  rw [e1, e2, e3, ← z, u32_or_nat _ _ l1 b1, ← t1, u32_or_nat _ _ l2 b2, ← t2, u32_or_nat _ _ l3 b3, ← t3]
  rfl

theorem end_four (s : Nat) (x0 x1 x2 x3 : UInt8) : ((s : Int) == bits .or .u32 (bits .or .u32 (bits .or .u32 (x0.toNat : Int) ((x1.toNat : Int) * 256)) ((x2.toNat : Int) * 65536)) ((x3.toNat : Int) * 16777216)) = (leN [x0, x1, x2, x3] == s) := by
  rw [or_four, nat_beq, BEq.comm]

set_option maxHeartbeats 1000000 in
theorem refRight_any {b : Value} {l : List UInt8} (w : World) (hb : Bs w b l) :
    Calls Try.prog 65 #[b] w fun e w' => e = .returned (.bool (rightB l)) ∧ ∃ n, w' = w.drewN n := by
  have hlen := hb.len
  by_cases h4 : 4 ≤ l.length
  · rw [rightB_long h4]
    obtain ⟨k, hk⟩ : ∃ k, l.length = k + 4 := ⟨l.length - 4, by omega⟩
    have hk4 : l.length - 4 = k := by omega
    unfold rightP
    rw [hk4]
    obtain ⟨v2, r2, s2⟩ := run_slice_to_bs bt w hb .i64 k (by omega)
    have hd : (l.drop k).length = 4 := by simp; omega
    obtain ⟨x0, x1, x2, x3, hx⟩ : ∃ x0 x1 x2 x3, l.drop k = [x0, x1, x2, x3] := by
      match h : l.drop k, hd with
      | [x0, x1, x2, x3], _ => exact ⟨x0, x1, x2, x3, rfl⟩
    have hg : ∀ i x, [x0, x1, x2, x3][i]? = some x → l[k + i]? = some x := by
      intro i x hi
      rw [← hx, List.getElem?_drop] at hi
      exact hi
    obtain ⟨b0, o0, cap0, rfl, q0, hb0, hcells⟩ := hb.open (by omega)
    have c0 := hcells _ _ (hg 0 x0 rfl)
    have c1 := hcells _ _ (hg 1 x1 rfl)
    have c2 := hcells _ _ (hg 2 x2 rfl)
    have c3 := hcells _ _ (hg 3 x3 rfl)
    rw [hx]
    have y0 := x0.toNat_lt
    have y1 := x1.toNat_lt
    have y2 := x2.toNat_lt
    have y3 := x3.toNat_lt
    rw [Nat.add_zero] at c0
    clear hg hcells hx hd hk4 hb h4
    generalize l.take k = q at *
    generalize l.length = n at *
    subst hk
    have e1 : IntKind.i64.wrap ((k : Int) + 1) = (k : Int) + 1 := IntWalk.i64_in _ (by omega)
    have e2 : IntKind.i64.wrap ((k : Int) + 2) = (k : Int) + 2 := IntWalk.i64_in _ (by omega)
    have e3 : IntKind.i64.wrap ((k : Int) + 3) = (k : Int) + 3 := IntWalk.i64_in _ (by omega)
    go_enter Try.func65, Try.ntmps65
    go_wp2_with fail
    go_quiet ((go_at_call 53; exact quiet_left (refSum_any _ (s2.drewN _))))
    go_wp2
    go_ret
    exact ⟨ret_bool (end_four _ _ _ _ _), _, rfl⟩
  · rw [rightB_short h4]
    obtain ⟨a, cap, rfl, hb⟩ := hb.shape
    have hp : (l.length : Int) - 4 < 0 := by omega
    clear h4
    go_enter Try.func65, Try.ntmps65
    go_wp2_with fail
    go_ret
    exact ⟨rfl, 0, rfl⟩

end Go.Proofs.Ytcpapdpnnlnemaa
namespace Go.Proofs.Ytcpapdpnnlnemaa
open Go.RowKit

set_option maxHeartbeats 400000 in
theorem refSize_any (n : Int) (w : World) :
    Calls Try.prog 59 #[.int .i64 n] w fun e w' => e = .returned (.bool (mayB n)) ∧ w = w' := by
  by_cases a1 : n = 1
  · subst a1
    go_enter Try.func59, Try.ntmps59
    go_wp2
    go_ret
    exact ⟨rfl, rfl⟩
  by_cases a2 : n = 2
  · subst a2
    go_enter Try.func59, Try.ntmps59
    go_wp2
    go_ret
    exact ⟨rfl, rfl⟩
  by_cases a3 : n = 4
  · subst a3
    go_enter Try.func59, Try.ntmps59
    go_wp2
    go_ret
    exact ⟨rfl, rfl⟩
  by_cases a4 : n = 8
  · subst a4
    go_enter Try.func59, Try.ntmps59
    go_wp2
    go_ret
    exact ⟨rfl, rfl⟩
  have b1 := beq_eq_false_iff_ne.2 a1
  have b2 := beq_eq_false_iff_ne.2 a2
  have b3 := beq_eq_false_iff_ne.2 a3
  have b4 := beq_eq_false_iff_ne.2 a4
  have hm : mayB n = false := by simp [mayB, a1, a2, a3, a4]
  rw [hm]
  clear hm a1 a2 a3 a4
  go_enter Try.func59, Try.ntmps59
  go_wp2
  go_ret
  exact ⟨rfl, rfl⟩

set_option maxHeartbeats 400000 in
theorem refPut_any {b : Value} {l : List UInt8} (n : Nat) (k : Int) (w : World) (hb : Bs w b l) (hl : l.length ≤ 1073741824) :
    Calls Try.prog 52 #[b, .int .u64 (n : Int), .int .i64 k] w (Gives w (putL l n k)) := by
  have hs : ([] : List UInt8).length + l.length ≤ 140737488355328 := by simp; omega
  have hz : w.heap.size ≤ (w.alloc (.cells #[] 5)).heap.size := by simp
  have hbl := (Below.refl w.heap.size w).alloc (Nat.le_refl _) (.cells #[] 5)
  have hb1 := hb.below hbl
  have ho := ow_empty w
  by_cases hk : mayB k = true
  · obtain ⟨k1, k8⟩ := mayB_true hk
    obtain ⟨k, rfl⟩ := Int.eq_ofNat_of_zero_le (show 0 ≤ k by omega)
    have hp : Hid (putL l n (k : Int) = l ++ beL n k) := Lib.hid (by unfold putL; rw [if_pos hk]; rfl)
    go_enter Try.func52, Try.ntmps52
    go_wp2_with (at_builtin; refine wpList_append_bs bt rfl (.tmp 9) (.tmp 10) rfl w.heap.size rfl rfl ho hb1 hs hz ?_; intro v3 w3 ho3 hg3)
    have hbl3 := below_own hbl ho hg3
    refine (refSize_any _ _).mono ?_
    rintro e w4 ⟨rfl, rfl⟩
    go_wp2_with fail
    go_loopw [7, 8] (fun s i wr => ∃ r : Nat, r ≤ k ∧ i = .int .i64 r ∧ Ow wr w.heap.size 5 s (l ++ (beL n k).take r) ∧ Below w.heap.size w wr) (fun _ i _ => k - (intOf i).toNat)
    case atStart => exact ⟨0, by omega, rfl, by simpa using ho3, hbl3⟩
    case round =>
      obtain ⟨r, hr, rfl, hor, hbr⟩ := hrel
      by_cases hlt : r < k
      · have hs : (l ++ (beL n k).take r).length + [UInt8.ofNat (n / 2 ^ (8 * (k - 1 - r)))].length ≤ 140737488355328 := by simp; omega
        have hz : w.heap.size ≤ (wr.alloc (.cells #[Value.int .u8 ((n : Int) / 2 ^ (8 * (k - 1 - r)) % 256)] 5)).heap.size := by have := hbr.size; simp; omega
        go_wp2_with (at_builtin; refine wpList_append_bs bt rfl _ _ rfl w.heap.size rfl rfl (hor.below ((Below.refl _ _).alloc (Nat.le_refl _) _)) (Bs.new1 _ _ _ _ (byte_val n (8 * (k - 1 - r)))) hs hz ?_; intro v2 w2 ho2 hg2)
        go_roundw
        case rel =>
          refine ⟨r + 1, by omega, by go_num, ?_, (hbr.alloc (by have := hbr.size; omega) _).grown hg2 hz (fun j hj => (World.ownsRow.lt hor j hj).1)⟩
          rw [beL_take_succ n k r hlt, ← List.append_assoc]
          exact ho2
        case measure => simp [intOf]; omega
      · obtain rfl : r = k := by omega
        rw [beL_take_all] at hor
        go_wp2
        go_ret
        refine ⟨_, rfl, ?_, hbr⟩
        rw [hp.out]
        exact hor
  · have hk' : mayB k = false := by simpa using hk
    have hp : Hid (putL l n k = l) := Lib.hid (by unfold putL; rw [if_neg hk])
    clear hk
    go_enter Try.func52, Try.ntmps52
    go_wp2_with (at_builtin; refine wpList_append_bs bt rfl (.tmp 9) (.tmp 10) rfl w.heap.size rfl rfl ho hb1 hs hz ?_; intro v3 w3 ho3 hg3)
    have hbl3 := below_own hbl ho hg3
    refine (refSize_any _ _).mono ?_
    rintro e w4 ⟨rfl, rfl⟩
    go_wp2
    go_ret
    refine ⟨_, rfl, ?_, hbl3⟩
    rw [hp.out]
    exact ho3

end Go.Proofs.Ytcpapdpnnlnemaa
namespace Go.Proofs.Ytcpapdpnnlnemaa
open Go.RowKit

/-- What the document's Seal answers. -/
def SealsR (w : World) (k : UInt8) (l : List UInt8) (e : Ending) (w' : World) : Prop :=
  ∃ v, e = .returned (.tuple #[v, .int .i64 0]) ∧ Ow w' w.heap.size 5 v (sealL k l) ∧ Below w.heap.size w w'

theorem toNat_ne {k : UInt8} (h0 : k ≠ 0) : ¬ (k.toNat : Int) = 0 := fun h => h0 (UInt8.toNat_inj.1 (by rw [show (0 : UInt8).toNat = 0 from rfl]; omega))

set_option maxHeartbeats 400000 in
theorem refSeal_zero {b : Value} {l : List UInt8} (w : World) (hb : Bs w b l) :
    Calls Try.prog 31 #[.int .u8 0, b] w fun e w' => e = .returned (.tuple #[.slice none 0 0, .int .i64 1]) ∧ w = w' := by
  obtain ⟨a, cap, rfl, hb⟩ := hb.shape
  go_enter Try.func31, Try.ntmps31
  go_wp2
  go_ret2
  exact ⟨rfl, rfl⟩

set_option maxHeartbeats 400000 in
theorem refSeal_many {b : Value} {l : List UInt8} (k : UInt8) (w : World) (hb : Bs w b l) (h0 : k ≠ 0) (hl : 505 < l.length) :
    Calls Try.prog 31 #[.int .u8 (k.toNat : Int), b] w fun e w' => e = .returned (.tuple #[.slice none 0 0, .int .i64 6]) ∧ w = w' := by
  have hk := toNat_ne h0
  obtain ⟨a, cap, rfl, hb⟩ := hb.shape
  go_enter Try.func31, Try.ntmps31
  go_wp2
  go_ret2
  exact ⟨rfl, rfl⟩

def lenV (v : Value) : Nat := match v with | .slice _ n _ => n | _ => 0

theorem append_zero (h : List UInt8) (j : Nat) : h ++ List.replicate j 0 ++ [0] = h ++ List.replicate (j + 1) 0 := by
  rw [List.append_assoc, List.replicate_succ']

set_option maxHeartbeats 1000000 in
theorem refSeal_ok {b : Value} {l : List UInt8} (k : UInt8) (w : World) (hb : Bs w b l) (h0 : k ≠ 0) (hl : l.length ≤ 505) :
    Calls Try.prog 31 #[.int .u8 (k.toNat : Int), b] w (SealsR w k l) := by
  have hk := toNat_ne h0
  obtain ⟨a, cap, rfl, hb⟩ := hb.shape
  have hw64 : IntKind.u64.wrap (l.length : Int) = l.length := IntWalk.u64_in _ (by omega)
  have hk1 := Bs.new1 w 5 (.int .u8 (k.toNat : Int)) k rfl
  have bk := (Below.refl w.heap.size w).alloc (Nat.le_refl _) (.cells #[.int .u8 (k.toNat : Int)] 5)
  have HA := Lib.hid (show aheadL k l = (k :: beL l.length 2 ++ l) ++ List.replicate (505 - l.length) 0 by simp [aheadL])
  have HS := Lib.hid (show aheadL k l ++ four (sumN (aheadL k l)) = sealL k l from rfl)
  have HN := Lib.hid (show (k :: beL l.length 2 ++ l).length = 3 + l.length by simp [beL_length]; omega)
  have hsn := sumN_lt (aheadL k l)
  have hal := Lib.hid (aheadL_length (k := k) hl)
  go_enter Try.func31, Try.ntmps31
  go_wp2_with fail
  refine (refPut_any l.length 2 _ hk1 (by simp)).mono ?_
  rintro e w1 ⟨v1, rfl, o1, b1⟩
  have bk1 := bk.trans (b1.mono bk.size)
  have o1' : Ow w1 w.heap.size 5 v1 (k :: beL l.length 2) := o1.mono bk.size
  have hb1 := hb.below bk1
  have hs1 : (k :: beL l.length 2).length + l.length ≤ 140737488355328 := by simp [beL_length]; omega
  have hz1 := bk1.size
  clear o1 b1 bk hk1
  go_wp2_with (at_builtin; refine wpList_append_bs bt rfl (.tmp 18) (.tmp 19) rfl w.heap.size rfl rfl o1' hb1 hs1 hz1 ?_; intro v2 w2 o2 g2)
  have b2 := below_own bk1 o1' g2
  clear o1' hb1 hs1 hz1 g2 bk1
  generalize k :: beL l.length 2 ++ l = h at *
  go_loopw [6] (fun s wr => ∃ j : Nat, j ≤ 505 - l.length ∧ Ow wr w.heap.size 5 s (h ++ List.replicate j 0) ∧ Below w.heap.size w wr) (fun s _ => 508 - lenV s)
  case atStart => exact ⟨0, by omega, by simpa using o2, b2⟩
  case round =>
    obtain ⟨j, hj, oj, bj⟩ := hrel
    have hjl : (h ++ List.replicate j 0).length = 3 + l.length + j := by simp [HN.out]
    by_cases hlt : j < 505 - l.length
    · have bj' := bj.alloc bj.size (.cells #[.int .u8 0] 5)
      have oj' := oj.below ((Below.refl _ _).alloc (Nat.le_refl _) (.cells #[.int .u8 0] 5))
      have hn1 := Bs.new1 wr 5 (.int .u8 0) 0 rfl
      have hs : (h ++ List.replicate j 0).length + [(0 : UInt8)].length ≤ 140737488355328 := by rw [hjl]; simp; omega
      have hz := bj'.size
      obtain ⟨pa, pc, hv, -⟩ := oj'.bs.shape
      obtain ⟨n, hn⟩ : ∃ n, n = (h ++ List.replicate j 0).length := ⟨_, rfl⟩
      rw [← hn] at hv
      subst hv
      have hjj : (n : Int) < 508 := by omega
      have hnn : n < 508 := by omega
      have Hjl := Lib.hid (And.intro hjl hn)
      clear hjl hn
      go_wp2_with (at_builtin; refine wpList_append_bs bt rfl (.tmp 24) (.tmp 25) rfl w.heap.size rfl rfl oj' hn1 hs hz ?_; intro v3 w3 o3 g3)
      have b3 := below_own bj' oj' g3
      rw [append_zero] at o3
      obtain ⟨pa3, pc3, hv3, -⟩ := o3.bs.shape
      have hl3 : (h ++ List.replicate (j + 1) 0).length = 3 + l.length + (j + 1) := by simp [HN.out]
      go_roundw
      case rel => exact ⟨j + 1, by omega, o3, b3⟩
      case measure =>
        have e1 := Hjl.out.1
        have e2 := Hjl.out.2
        rw [hv3, hl3]
        simp [lenV]
        omega
    · obtain rfl : j = 505 - l.length := by omega
      rw [← HA.out] at oj
      obtain ⟨pa, pc, hv, -⟩ := oj.bs.shape
      rw [hal.out] at hv
      subst hv
      clear hjl
      go_wp2_with fail
      refine (refSum_any _ oj.bs).mono ?_
      rintro e w3 ⟨rfl, rfl⟩
      have hf := four_cells (sumN (aheadL k l)) hsn
      have HT := HS.out
      generalize sumN (aheadL k l) = t at *
      generalize aheadL k l = hd at *
      have hb2 := bs_lit wr _ (four t) 4 hf rfl (by simp [four])
      have bz := bj.alloc bj.size (.cells #[.int .u8 ((t : Int) % 256), .int .u8 ((t : Int) / 256 % 256), .int .u8 ((t : Int) / 65536 % 256), .int .u8 ((t : Int) / 16777216)] 5)
      have oz := oj.below ((Below.refl _ _).alloc (Nat.le_refl _) (.cells #[.int .u8 ((t : Int) % 256), .int .u8 ((t : Int) / 256 % 256), .int .u8 ((t : Int) / 65536 % 256), .int .u8 ((t : Int) / 16777216)] 5))
      have hs2 : hd.length + (four t).length ≤ 140737488355328 := by rw [hal.out, four_length]; decide
      have hz2 := bz.size
      clear hf
      have HT2 := Lib.hid HT
      clear HT HS HA
      go_wp2_with (at_builtin; refine wpList_append_bs bt rfl (.tmp 29) (.tmp 41) rfl w.heap.size rfl rfl oz hb2 hs2 hz2 ?_; intro v4 w4 o4 g4)
      go_ret2
      rw [HT2.out] at o4
      exact ⟨_, rfl, o4, below_own bz oz g4⟩
end Go.Proofs.Ytcpapdpnnlnemaa
namespace Go.Proofs.Ytcpapdpnnlnemaa
open Go.RowKit

theorem refRight_b {b : Value} {l : List UInt8} (w : World) (hb : Bs w b l) :
    Calls Try.prog 65 #[b] w fun e w' => e = .returned (.bool (rightB l)) ∧ Below w.heap.size w w' :=
  (refRight_any w hb).mono fun _ _ ⟨he, n, hw⟩ => ⟨he, by rw [hw]; exact below_drewN (Below.refl _ _) n⟩

set_option maxHeartbeats 400000 in
theorem refOpen_short {b : Value} {l : List UInt8} (w : World) (hb : Bs w b l) (h : l.length ≠ 512) : Calls Try.prog 56 #[b] w (Opens w l) := by
  obtain ⟨a, cap, rfl, hb⟩ := hb.shape
  have fin := Lib.hid (fun (w' : World) (hb : Below w.heap.size w w') => opens_spoilt (l := l) (fun q => h q.1) hb)
  have hne : ((l.length : Int) != 512) = true := by simp; omega
  clear h
  go_enter Try.func56, Try.ntmps56
  go_wp2
  go_ret3
  exact fin.out _ (Below.refl _ _)

set_option maxHeartbeats 400000 in
theorem refOpen_wrong {b : Value} {l : List UInt8} (w : World) (hb : Bs w b l) (h : l.length = 512) (hr : rightB l = false) : Calls Try.prog 56 #[b] w (Opens w l) := by
  have fin := Lib.hid (fun (w' : World) (hb : Below w.heap.size w w') => opens_spoilt (l := l) (fun q => by rw [hr] at q; cases q.2) hb)
  have HR := Lib.hid hr
  clear hr
  obtain ⟨a, cap, rfl, hb⟩ := hb.shape
  have e : (Value.slice a l.length cap) = .slice a 512 cap := by rw [h]
  rw [e] at hb ⊢
  clear e h
  go_enter Try.func56, Try.ntmps56
  go_wp2_with fail
  refine (refRight_b _ hb).mono ?_
  rintro e w1 ⟨he, b1⟩
  rw [HR.out] at he
  subst he
  go_wp2
  go_ret3
  exact fin.out _ b1

theorem nOf_bytes {l : List UInt8} {x1 x2 : UInt8} (h1 : l[1]? = some x1) (h2 : l[2]? = some x2) : nOf l = x1.toNat * 256 + x2.toNat := by
  have e : (l.drop 1).take 2 = [x1, x2] := by
    match l, h1, h2 with
    | _ :: a :: b :: m, h1, h2 =>
      simp at h1 h2
      subst h1; subst h2
      rfl
  unfold nOf
  rw [e]
  simp [beNat]

set_option maxHeartbeats 1000000 in
theorem refOpen_right {b : Value} {l : List UInt8} (w : World) (hb : Bs w b l) (h : l.length = 512) (hr : rightB l = true) : Calls Try.prog 56 #[b] w (Opens w l) := by
  have HR := Lib.hid hr
  have HS := Lib.hid (And.intro h hr)
  obtain ⟨x0, hx0⟩ : ∃ x, l[0]? = some x := ⟨_, List.getElem?_eq_getElem (by omega)⟩
  obtain ⟨x1, hx1⟩ : ∃ x, l[1]? = some x := ⟨_, List.getElem?_eq_getElem (by omega)⟩
  obtain ⟨x2, hx2⟩ : ∃ x, l[2]? = some x := ⟨_, List.getElem?_eq_getElem (by omega)⟩
  have hx0' : l.getD 0 0 = x0 := by rw [List.getD_eq_getElem?_getD, hx0]; rfl
  have hN := nOf_bytes hx1 hx2
  have y1 := x1.toNat_lt
  have y2 := x2.toNat_lt
  obtain ⟨b0, o0, cap, rfl, q0, hb0, hcells⟩ := hb.open (by omega)
  have hcell := hcells 0 x0 hx0
  have hcell1 := hcells 1 x1 hx1
  have hcell2 := hcells 2 x2 hx2
  rw [Nat.add_zero] at hcell
  clear hr hx0 hx1 hx2 hcells
  have e : (Value.slice (some ⟨b0, o0, none⟩) l.length cap) = .slice (some ⟨b0, o0, none⟩) 512 cap := by rw [h]
  rw [e] at hb ⊢
  clear e
  have hi : ((x1.toNat : Int) * 256 + (x2.toNat : Int)) = ((nOf l : Nat) : Int) := by rw [hN]; omega
  have HI := Lib.hid hi
  clear hi hN
  go_enter Try.func56, Try.ntmps56
  go_wp2_with fail
  refine (refRight_b _ hb).mono ?_
  rintro e w1 ⟨he, b1⟩
  rw [HR.out] at he
  subst he
  have c1 := (b1.cell (p := ⟨b0, o0 + 1, none⟩) (by exact hb0)).trans hcell1
  have c2 := (b1.cell (p := ⟨b0, o0 + 2, none⟩) (by exact hb0)).trans hcell2
  go_wp2_with fail
  go_quiet (fail)
  rw [HI.out]
  have b2 := below_drewN b1 nq
  clear b1 c1 c2 HI hcell1 hcell2
  generalize w1.drewN nq = w2 at *
  by_cases hn : nOf l ≤ 505
  · have hI : ¬ (505 : Int) < ((nOf l : Nat) : Int) := by omega
    obtain ⟨v3, r3, s3⟩ := run_slice_bs bt w hb .i64 .i64 3 (3 + nOf l) (by omega) (by omega)
    rw [Int.natCast_add, show ((3 : Nat) : Int) = 3 from rfl] at r3
    have hbd : (l.take (3 + nOf l)).drop 3 = (l.drop 3).take (nOf l) := by rw [List.take_drop]
    rw [hbd] at s3
    have hlen : ((l.drop 3).take (nOf l)).length ≤ 505 := by have := List.length_take_le (nOf l) (l.drop 3); omega
    have hiff := openOk_iff HS.out hn
    have hgood := fun (ho : openOk l = true) => openV_good HS.out ho
    rw [hx0'] at hiff hgood
    generalize (l.drop 3).take (nOf l) = body at *
    have Hiff := Lib.hid (And.intro hiff hgood)
    clear hiff hgood hbd hx0' hn
    generalize nOf l = n at *
    have b3 := b2.alloc b2.size (.cells #[] 5)
    have o3 : Ow (w2.alloc (.cells #[] 5)) w.heap.size 5 (.slice (some ⟨w2.heap.size, 0, none⟩) 0 0) [] := (ow_empty w2).mono b2.size
    have s3' := s3.below b3
    have hs3 : ([] : List UInt8).length + body.length ≤ 140737488355328 := by simp; omega
    have hz3 := b3.size
    go_wp2_with (at_builtin; refine wpList_append_bs bt rfl (.tmp 29) (.tmp 33) rfl w.heap.size rfl rfl o3 s3' hs3 hz3 ?_; intro v4 w4 o4 g4; have b4 := below_own b3 o3 g4; have hc4 := (b4.cell (p := ⟨b0, o0, none⟩) (by exact hb0)).trans hcell)
    rw [List.nil_append] at o4
    clear b3 o3 s3 s3' hs3 hz3 g4 r3
    by_cases h0 : x0 = 0
    · subst h0
      have hbad : ¬ openOk l = true := fun q => (Hiff.out.1.1 q).1 rfl
      have fin := Lib.hid (fun (w' : World) (hb : Below w.heap.size w w') => opens_bad HS.out hbad hb)
      rw [show ((0 : UInt8).toNat : Int) = 0 from rfl] at hc4 hcell ⊢
      clear hbad
      refine (refSeal_zero _ o4.bs).mono ?_
      rintro e w5 ⟨rfl, rfl⟩
      go_wp2
      go_ret3
      exact fin.out _ b4
    · refine (refSeal_ok x0 _ o4.bs h0 hlen).mono ?_
      rintro e w5 ⟨v5, rfl, o5, b5⟩
      have b6 := b4.trans (b5.mono b4.size)
      have hb6 := hb.below b6
      have o6 := (o4.below b5)
      have hc6 := (b6.cell (p := ⟨b0, o0, none⟩) (by exact hb0)).trans hcell
      have k1 := run_string_bs bt (d := 9) Try.underlying9 w5 o5.bs
      have k2 := run_string_bs bt (d := 9) Try.underlying9 w5 hb6
      clear hc4
      by_cases hq : sealL x0 body = l
      · have ho : openOk l = true := Hiff.out.1.2 ⟨h0, hq⟩
        have HV := Lib.hid (Hiff.out.2 ho)
        rw [hq] at k1
        clear ho hq o5 b5 h0
        go_wp2
        go_ret3
        refine ⟨v4, ?_, ?_, b6⟩
        · rw [HV.out]; rfl
        · rw [HV.out]; exact o6
      · have hbad : ¬ openOk l = true := fun q => hq (Hiff.out.1.1 q).2
        have fin := Lib.hid (fun (w' : World) (hb : Below w.heap.size w w') => opens_bad HS.out hbad hb)
        have hne : (sealL x0 body == l) = false := beq_eq_false_iff_ne.2 hq
        generalize sealL x0 body = sl at *
        clear hq hbad
        go_wp2
        go_ret3
        exact fin.out _ b6
  · have hI : (505 : Int) < ((nOf l : Nat) : Int) := by omega
    have hbad : ¬ openOk l = true := by unfold openOk; rw [decide_eq_false hn]; simp
    have fin := Lib.hid (fun (w' : World) (hb : Below w.heap.size w w') => opens_bad HS.out hbad hb)
    clear hbad hn hx0'
    generalize nOf l = n at *
    go_wp2
    go_ret3
    exact fin.out _ b2

theorem refOpen_any {b : Value} {l : List UInt8} (w : World) (hb : Bs w b l) : Calls Try.prog 56 #[b] w (Opens w l) := by
  by_cases h : l.length = 512
  · rcases hr : rightB l with _ | _
    · exact refOpen_wrong w hb h hr
    · exact refOpen_right w hb h hr
  · exact refOpen_short w hb h
end Go.Proofs.Ytcpapdpnnlnemaa
namespace Go.Proofs.Ytcpapdpnnlnemaa
open Go.RowKit

theorem seal_front : (sealL 1 [97, 98]).take 5 = [1, 0, 2, 97, 98] := rfl
theorem fold_z1 : foldN fullN (List.replicate 127 0) = 2408625509 := by decide +kernel
theorem fold_z2 : foldN 2408625509 (List.replicate 127 0) = 2704700111 := by decide +kernel
theorem fold_z3 : foldN 2704700111 (List.replicate 127 0) = 177498411 := by decide +kernel
theorem fold_z4 : foldN 177498411 (List.replicate 127 0) = 4031025835 := by decide +kernel
theorem sum_508 : sumN (List.replicate 508 0) = 263941460 := by
  have e : List.replicate 508 (0 : UInt8) = List.replicate 127 0 ++ (List.replicate 127 0 ++ (List.replicate 127 0 ++ List.replicate 127 0)) := by
    rw [List.replicate_append_replicate, List.replicate_append_replicate, List.replicate_append_replicate]
  unfold sumN moreN
  rw [show notN 0 = fullN from rfl, e, foldN_append, foldN_append, foldN_append, fold_z1, fold_z2, fold_z3, fold_z4]
  decide
theorem noughts_512 : openV (List.replicate 512 0) = (0, [], 9) := by
  apply openV_spoilt
  rintro ⟨-, h⟩
  have hl : (List.replicate 512 (0 : UInt8)).length = 512 := List.length_replicate
  rw [rightB_long (by rw [hl]; decide)] at h
  unfold rightP at h
  rw [hl, List.take_replicate, List.drop_replicate, show min (512 - 4) 512 = 508 from rfl, show 512 - (512 - 4) = 4 from rfl, sum_508] at h
  revert h
  decide

end Go.Proofs.Ytcpapdpnnlnemaa
namespace Go.Proofs.Ytcpapdpnnlnemaa
open Go.RowKit

theorem xor_val (x : UInt8) : Value.int .u8 (bits .xor .u8 (x.toNat : Int) 44) = bv (UInt8.ofNat (x.toNat ^^^ 44)) := by
  have h2 : x.toNat ^^^ 44 < 256 := Nat.xor_lt_two_pow (n := 8) x.toNat_lt (by decide)
  have := u8_xor_nat x.toNat 44 x.toNat_lt (by decide)
  rw [show ((44 : Nat) : Int) = 44 from rfl] at this
  rw [this]
  unfold bv
  rw [UInt8.toNat_ofNat', Nat.mod_eq_of_lt h2]

theorem refSeal_any {b : Value} {l : List UInt8} (k : UInt8) (w : World) (hb : Bs w b l) : Calls Try.prog 31 #[.int .u8 (k.toNat : Int), b] w (Seals w k l) := by
  unfold Seals sealV
  by_cases h0 : k = 0
  · subst h0
    rw [if_pos rfl]
    refine (refSeal_zero w hb).mono ?_
    rintro e w1 ⟨rfl, rfl⟩
    exact ⟨_, 5, rfl, World.ownsRow_nil _ _ _ _, Below.refl _ _⟩
  · rw [if_neg h0]
    by_cases hl : 505 < l.length
    · rw [if_pos hl]
      refine (refSeal_many k w hb h0 hl).mono ?_
      rintro e w1 ⟨rfl, rfl⟩
      exact ⟨_, 5, rfl, World.ownsRow_nil _ _ _ _, Below.refl _ _⟩
    · rw [if_neg hl]
      refine (refSeal_ok k w hb h0 (by omega)).mono ?_
      rintro e w1 ⟨v, he, ho, hbl⟩
      exact ⟨v, _, he, ho, hbl⟩

end Go.Proofs.Ytcpapdpnnlnemaa
