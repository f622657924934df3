/- The walk of PagesAll: it returns true and writes nothing that was there; no condition. -/
import Derived.Test.YtdmcknankcbjiaaPgMine
namespace Go.Proofs.Ytdmcknankcbjiaa
open Go.RowKit

/-- The first j of n pages have been taken. -/
def takenTo (n j : Nat) : List Pg := List.replicate j (false, true) ++ List.replicate (n - j) (false, false)
theorem takenTo_length {n j : Nat} (h : j ≤ n) : (takenTo n j).length = n := by simp [takenTo]; omega
theorem takenTo_zero (n : Nat) : takenTo n 0 = freshP n := by simp [takenTo, freshP]
theorem takenTo_all (n : Nat) : takenTo n n = List.replicate n (false, true) := by simp [takenTo]
theorem takenTo_least {n j : Nat} (h : j < n) : leastFree (takenTo n j) = some j := by
  refine least_of (x := (false, false)) ?_ rfl (fun q y hq hy => ?_)
  · unfold takenTo
    rw [List.getElem?_append_right (by simp), List.getElem?_replicate]
    simp
    omega
  · unfold takenTo at hy
    rw [List.getElem?_append_left (by simpa using hq), List.getElem?_replicate] at hy
    rw [if_pos hq] at hy
    cases hy
    decide
theorem takenTo_set {n j : Nat} (h : j < n) : (takenTo n j).set j (false, true) = takenTo n (j + 1) := by
  unfold takenTo
  rw [List.set_append_right _ _ (by simp)]
  have e1 : j - (List.replicate j (false, true)).length = 0 := by simp
  have e2 : n - j = (n - (j + 1)) + 1 := by omega
  rw [e1, e2, List.replicate_succ, List.set_cons_zero]
  rw [List.replicate_succ' (n := j)]
  simp
theorem takenTo_free {n j : Nat} : freeP (takenTo n j) = n - j := by
  unfold freeP takenTo
  rw [List.countP_append, List.countP_replicate, List.countP_replicate]
  simp [pnum]
theorem all_least {n : Nat} {x : Pg} (h : pnum x ≠ 0) : leastFree (List.replicate n x) = none := by
  refine least_of_none (fun j y hy => ?_)
  rw [List.getElem?_replicate] at hy
  split at hy
  · cases hy
    exact h
  · cases hy
theorem all_settled (n : Nat) : settledP (List.replicate n (false, true)) = List.replicate n (true, true) := by simp [settledP]
theorem all_at {n a : Nat} {x : Pg} (h : a < n) : (List.replicate n x)[a]? = some x := by
  rw [List.getElem?_replicate, if_pos h]
theorem one_at {n a : Nat} {x y : Pg} (h : a < n) : ((List.replicate n x).set a y)[a]? = some y := List.getElem?_set_self (by simpa using h)
theorem one_least {n a : Nat} {x y : Pg} (hx : pnum x ≠ 0) (hy : pnum y ≠ 0) : leastFree ((List.replicate n x).set a y) = none := by
  refine least_of_none (fun j z hz => ?_)
  rw [List.getElem?_set, List.length_replicate, List.getElem?_replicate] at hz
  split at hz <;> split at hz <;> cases hz <;> assumption
theorem one_free {n a : Nat} (h : a < n) : leastFree ((List.replicate n (true, true)).set a (false, false)) = some a := by
  refine least_of (one_at h) rfl (fun j z hj hz => ?_)
  rw [List.getElem?_set_ne (by omega), List.getElem?_replicate] at hz
  split at hz <;> cases hz
  decide
theorem one_settled {n a : Nat} : settledP ((List.replicate n (true, true)).set a (true, false)) = (List.replicate n (true, true)).set a (false, false) := by
  unfold settledP
  rw [List.map_set, List.map_replicate]

theorem tcode_some {l : List Pg} {k : Nat} (h : leastFree l = some k) : tcode l = 0 ∧ tpage l = k ∧ tdone l = l.set k (false, true) := by simp [tcode, tpage, tdone, h]
theorem tcode_none {l : List Pg} (h : leastFree l = none) : tcode l = 7 ∧ tpage l = 0 ∧ tdone l = l := by simp [tcode, tpage, tdone, h]
theorem rcode_at {l : List Pg} {k : Nat} {x : Pg} (h : l[k]? = some x) : rcode l (k : Int) = (if x.2 = true then 0 else 3) ∧ rdone l (k : Int) = (if x.2 = true then l.set k (x.1, false) else l) := by
  simp [rcode, rdone, pgAt_nat, h]

set_option maxRecDepth 100000 in
set_option maxHeartbeats 400000 in
theorem pagesAll_any (n0 k0 : Nat) (w : World) (h0 : n0 < 256) (h1 : k0 < 256) : Calls Try.prog 5 #[.int .u8 (n0 : Int), .int .u8 (k0 : Int)] w (Yes w) := by
  obtain ⟨m, hm⟩ : ∃ m, m = 1 + n0 % 60 := ⟨_, rfl⟩
  obtain ⟨a, ha⟩ : ∃ a, a = k0 % m := ⟨_, rfl⟩
  have hm1 : 1 ≤ m := by omega
  have hm2 : m ≤ 60 := by omega
  have ham : a < m := by rw [ha]; exact Nat.mod_lt _ (by omega)
  have e0 : (1 : Int) + (n0 : Int) % 60 = (m : Int) := by omega
  have e1 : (k0 : Int) % (m : Int) = (a : Int) := by rw [ha]; exact (Int.natCast_emod _ _).symm
  clear hm ha
  have n1 := p_new (w0 := w) m w (Below.refl _ _) hm1 (by omega)
  rw [← takenTo_zero] at n1
  go_enter Try.func5, Try.ntmps5
  go_wp2_with fail
  refine n1.mono ?_
  rintro e w1 ⟨b, rfl, m1⟩
  clear n1
  go_wp2
  go_loopw [8, 9, 10] (fun i _ _ wr => ∃ j : Nat, j ≤ m ∧ i = .int .i64 j ∧ PMine w wr b (takenTo m j)) (fun i _ _ _ => m - (intOf i).toNat)
  case atStart => exact ⟨0, Nat.zero_le _, rfl, m1⟩
  case round =>
    obtain ⟨j, hj, rfl, mj⟩ := hrel
    by_cases hlt : j < m
    · have hil : (j : Int) < (m : Int) := by omega
      obtain ⟨t1, t2, t3⟩ := tcode_some (takenTo_least hlt)
      have k1 := p_take mj
      rw [t1, t2, t3, takenTo_set hlt] at k1
      clear mj t1 t2 t3
      go_wp2_with fail
      refine k1.mono ?_
      rintro e w2 ⟨rfl, m2⟩
      clear k1
      have k2 := p_free m2
      have t4 : ((freeP (takenTo m (j + 1)) : Nat) : Int) = (m : Int) - 1 - (j : Int) := by rw [takenTo_free]; omega
      rw [t4] at k2
      clear t4
      go_wp2_with fail
      refine k2.mono ?_
      rintro e w3 ⟨rfl, rfl⟩
      clear k2
      have M2 := Lib.hid m2
      clear m2
      go_wp2
      go_roundw
      case rel => exact ⟨j + 1, by omega, by go_num, M2.out⟩
      case measure => simp [intOf]; omega
    · obtain rfl : j = m := by omega
      rw [takenTo_all] at mj
      obtain ⟨t1, t2, t3⟩ := tcode_none (all_least (n := j) (x := (false, true)) (by decide))
      have k1 := p_take mj
      rw [t1, t2, t3] at k1
      clear mj t1 t2 t3
      go_wp2_with fail
      refine k1.mono ?_
      rintro e w2 ⟨rfl, m2⟩
      clear k1
      have k2 := p_settle m2
      rw [all_settled] at k2
      clear m2
      go_wp2_with fail
      refine k2.mono ?_
      rintro e w3 ⟨rfl, m3⟩
      clear k2
      obtain ⟨t1, t2⟩ := rcode_at (all_at (x := (true, true)) ham)
      have k3 := p_drop m3 (a : Int)
      rw [t1, t2] at k3
      simp only [if_true] at k3
      clear m3 t1 t2
      go_wp2_with fail
      refine k3.mono ?_
      rintro e w4 ⟨rfl, m4⟩
      clear k3
      obtain ⟨t1, t2⟩ := rcode_at (one_at (x := (true, true)) (y := (true, false)) ham)
      have k4 := p_drop m4 (a : Int)
      rw [t1, t2] at k4
      simp only [Bool.false_eq_true, if_false] at k4
      clear m4 t1 t2
      go_wp2_with fail
      refine k4.mono ?_
      rintro e w5 ⟨rfl, m5⟩
      clear k4
      obtain ⟨t1, t2, t3⟩ := tcode_none (one_least (n := j) (a := a) (x := (true, true)) (y := (true, false)) (by decide) (by decide))
      have k5 := p_take m5
      rw [t1, t2, t3] at k5
      clear m5 t1 t2 t3
      go_wp2_with fail
      refine k5.mono ?_
      rintro e w6 ⟨rfl, m6⟩
      clear k5
      have k6 := p_settle m6
      rw [one_settled] at k6
      clear m6
      go_wp2_with fail
      refine k6.mono ?_
      rintro e w7 ⟨rfl, m7⟩
      clear k6
      obtain ⟨t1, t2, t3⟩ := tcode_some (one_free ham)
      have k7 := p_take m7
      rw [t1, t2] at k7
      clear m7 t1 t2 t3
      go_wp2_with fail
      refine k7.mono ?_
      rintro e w8 ⟨rfl, m8⟩
      clear k7
      have HB := Lib.hid m8.bel
      clear m8
      go_wp2_with fail
      refine (works_any _).mono ?_
      rintro e w9 ⟨rfl, b9⟩
      go_wp2
      go_ret
      exact ⟨rfl, HB.out.trans (b9.mono HB.out.size)⟩
end Go.Proofs.Ytdmcknankcbjiaa
