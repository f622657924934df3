/- Wide numbers: the product of two numbers, and the sum of two wide ones; condition: the sum is below 2^128. -/
import Derived.Test.YtmdjgkclbjbdiaaNtRel
import Derived.Test.YtmdjgkclbjbdiaaJrRes
import Derived.Lib.Mul64
import Derived.Laws.Externs
namespace Go.Proofs.Ytmdjgkclbjbdiaa
open Go.RowKit

theorem maskN (a : Nat) (ha : a < 18446744073709551616) : bits .and .u64 (a : Int) 4294967295 = ((a % 4294967296 : Nat) : Int) := by
  have h := bits_and_u64_nat a 4294967295 ha (by omega)
  rw [show a &&& 4294967295 = a % 4294967296 from Nat.and_two_pow_sub_one_eq_mod a 32] at h
  exact h
theorem divN (a : Nat) : (a : Int) / 4294967296 = ((a / 4294967296 : Nat) : Int) := by omega
theorem mulN (a b : Nat) : (a : Int) * (b : Int) = ((a * b : Nat) : Int) := (Int.natCast_mul a b).symm
theorem addN (a b : Nat) : (a : Int) + (b : Int) = ((a + b : Nat) : Int) := (Int.natCast_add a b).symm
theorem wrapN (a : Nat) (ha : a < 18446744073709551616) : IntKind.u64.wrap (a : Int) = (a : Int) := by rw [IntKind.wrap_u64]; omega
theorem wrapM (a : Nat) : IntKind.u64.wrap (a : Int) = ((a % 18446744073709551616 : Nat) : Int) := by rw [IntKind.wrap_u64]; omega

set_option maxHeartbeats 1000000 in
theorem mul64_any (x y : Nat) (hx : x < 18446744073709551616) (hy : y < 18446744073709551616) (w : World) :
    Calls Try.prog 36 #[.int .u64 x, .int .u64 y] w fun e w' => e = .returned (.tuple #[.int .u64 ((x * y / 18446744073709551616 : Nat) : Int), .int .u64 ((x * y % 18446744073709551616 : Nat) : Int)]) ∧ w = w' := by
  obtain ⟨bd, bt, bw, hhi⟩ := Lib.mul64_hi x y hx hy
  have ba := Lib.half_mul_le (a := x / 4294967296) (b := y / 4294967296) (by omega) (by omega)
  have bb := Lib.half_mul_le (a := x / 4294967296) (b := y % 4294967296) (by omega) (by omega)
  have bc := Lib.half_mul_le (a := x % 4294967296) (b := y / 4294967296) (by omega) (by omega)
  have ba' : x / 4294967296 * (y / 4294967296) < 18446744073709551616 := by omega
  have bb' : x / 4294967296 * (y % 4294967296) < 18446744073709551616 := by omega
  have bc' : x % 4294967296 * (y / 4294967296) < 18446744073709551616 := by omega
  have bh1 : x / 4294967296 * (y / 4294967296) + (x / 4294967296 * (y % 4294967296) + x % 4294967296 * (y % 4294967296) / 4294967296) / 4294967296 < 18446744073709551616 := by omega
  have bh : x / 4294967296 * (y / 4294967296) + (x / 4294967296 * (y % 4294967296) + x % 4294967296 * (y % 4294967296) / 4294967296) / 4294967296 + ((x / 4294967296 * (y % 4294967296) + x % 4294967296 * (y % 4294967296) / 4294967296) % 4294967296 + x % 4294967296 * (y / 4294967296)) / 4294967296 < 18446744073709551616 := by omega
  go_enter Try.func36, Try.ntmps36
  go_wp2
  simp only [maskN x hx, maskN y hy, divN, mulN, addN, wrapN _ bd, wrapN _ bb', wrapN _ bt, maskN _ bt, wrapN _ bc', wrapN _ bw, wrapN _ ba', wrapN _ bh1, wrapN _ bh, wrapM (x * y)]
  rw [hhi]
  go_ret2
  exact ⟨rfl, rfl⟩

theorem add64_run (x y c : Nat) (hc : c ≤ 1) (w : World) : (callFunc 34 #[.int .u64 x, .int .u64 y, .int .u64 c]).run Try.prog w =
    .ok (.value (.tuple #[.int .u64 (((x + y + c) % 18446744073709551616 : Nat) : Int), .int .u64 (((x + y + c) / 18446744073709551616 : Nat) : Int)])) w := by
  rw [run_callFunc_extern Try.func34 (by kernel_rfl) (by kernel_rfl) (by kernel_rfl) (e := add64Entry) (by kernel_rfl), run_add64 x y c (by omega) (by omega) (by omega) (by omega)]
  simp only [Result.andThen]
  congr 5 <;> omega

theorem load_wide {w : World} {g : Nat} {x : Nat} (h : Cel w g (wideL x) 50) : (loadVar 50 ⟨g, 0, none⟩).run Try.prog w = .ok (wideV x) w := by
  have c0 : w.cell? ⟨g, 0, none⟩ = some (.int .u64 ((x / 18446744073709551616 : Nat) : Int)) := by rw [h.cell]; rfl
  have c1 : w.cell? ⟨g, 1, none⟩ = some (.int .u64 ((x % 18446744073709551616 : Nat) : Int)) := by rw [h.cell]; rfl
  go_simp

theorem product_any (a b : Nat) (ha : a < 9223372036854775808) (hb : b < 9223372036854775808) (w : World) :
    Calls Try.prog 33 #[.int .i64 a, .int .i64 b] w fun e w' => e = .returned (wideV (a * b)) ∧ Below w.heap.size w w' := by
  have wa := wrapN a (by omega)
  have wb := wrapN b (by omega)
  go_enter Try.func33, Try.ntmps33
  go_wp2_with fail
  refine (mul64_any a b (by omega) (by omega) _).mono ?_
  rintro e w1 ⟨rfl, rfl⟩
  clear wa wb
  go_wp2
  refine bodyPost_ret (jresults_cell rfl rfl (load_wide (x := a * b) (by have h : Cel (w.alloc (.cells #[.int .u64 ((a * b / 18446744073709551616 : Nat) : Int), .int .u64 ((a * b % 18446744073709551616 : Nat) : Int)] 50)) w.heap.size (wideL (a * b)) 50 := Cel.new w _ _; simpa using h))) rfl ?_
  refine ⟨rfl, ?_⟩
  repeat' first | exact Below.refl _ _ | apply Below.alloc | apply Below.setCell
  all_goals simp

theorem plus_parts (a b c d s k t u : Nat) (w : World)
    (a1 : ∀ W, (callFunc 34 #[.int .u64 b, .int .u64 d, .int .u64 0]).run Try.prog W = .ok (.value (.tuple #[.int .u64 s, .int .u64 k])) W)
    (a2 : ∀ W, (callFunc 34 #[.int .u64 a, .int .u64 c, .int .u64 k]).run Try.prog W = .ok (.value (.tuple #[.int .u64 t, .int .u64 u])) W) :
    Calls Try.prog 29 #[.agg #[.int .u64 a, .int .u64 b], .agg #[.int .u64 c, .int .u64 d]] w fun e w' => e = .returned (.agg #[.int .u64 t, .int .u64 s]) ∧ Below w.heap.size w w' := by
  go_enter Try.func29, Try.ntmps29
  go_wp2_with (simp only [a1, a2])
  have hc : Cel ((((w.alloc (.cells #[.int .u64 (a : Int), .int .u64 b] 50)).alloc (.cells #[.int .u64 (c : Int), .int .u64 d] 50)).alloc (.cells #[.int .u64 (t : Int), .int .u64 s] 50))) (w.heap.size + 1 + 1) [.int .u64 (t : Int), .int .u64 s] 50 := by
    have h := Cel.new ((w.alloc (.cells #[.int .u64 (a : Int), .int .u64 b] 50)).alloc (.cells #[.int .u64 (c : Int), .int .u64 d] 50)) #[.int .u64 (t : Int), .int .u64 s] 50
    simpa using h
  have hl : (loadVar 50 ⟨w.heap.size + 1 + 1, 0, none⟩).run Try.prog (((w.alloc (.cells #[.int .u64 (a : Int), .int .u64 b] 50)).alloc (.cells #[.int .u64 (c : Int), .int .u64 d] 50)).alloc (.cells #[.int .u64 (t : Int), .int .u64 s] 50)) = .ok (.agg #[.int .u64 (t : Int), .int .u64 s]) (((w.alloc (.cells #[.int .u64 (a : Int), .int .u64 b] 50)).alloc (.cells #[.int .u64 (c : Int), .int .u64 d] 50)).alloc (.cells #[.int .u64 (t : Int), .int .u64 s] 50)) := by
    have c0 := hc.cell 0
    have c1 := hc.cell 1
    clear a1 a2 hc
    go_simp
  refine bodyPost_ret (jresults_cell rfl rfl hl) rfl ?_
  refine ⟨rfl, ?_⟩
  exact (((Below.refl _ _).alloc (Nat.le_refl _) _).alloc (by simp) _).alloc (by simp; omega) _

theorem plus_any (x y : Nat) (h : x + y < 340282366920938463463374607431768211456) (w : World) :
    Calls Try.prog 29 #[wideV x, wideV y] w fun e w' => e = .returned (wideV (x + y)) ∧ Below w.heap.size w w' := by
  have a1 := fun W => add64_run (x % 18446744073709551616) (y % 18446744073709551616) 0 (by decide) W
  have a2 := fun W => add64_run (x / 18446744073709551616) (y / 18446744073709551616) ((x % 18446744073709551616 + y % 18446744073709551616 + 0) / 18446744073709551616) (by omega) W
  have e1 : (x % 18446744073709551616 + y % 18446744073709551616 + 0) % 18446744073709551616 = (x + y) % 18446744073709551616 := by omega
  have e2 : (x / 18446744073709551616 + y / 18446744073709551616 + (x % 18446744073709551616 + y % 18446744073709551616 + 0) / 18446744073709551616) % 18446744073709551616 = (x + y) / 18446744073709551616 := by omega
  rw [e1] at a1
  rw [e2] at a2
  exact plus_parts _ _ _ _ _ _ _ _ w a1 a2
end Go.Proofs.Ytmdjgkclbjbdiaa
