/- JournalArgs: where a journal may lie; how many blocks strings take; of no device and no journal; no condition. -/
import Derived.Test.YtijkkkiejdaljaaJrWorks
namespace Go.Proofs.Ytijkkkiejdaljaa
open Go.RowKit

set_option maxHeartbeats 1000000 in
theorem refRight_any (m fr sz a s : Int) (w : World) (hm : 1 ≤ m ∧ m ≤ 4096) (hs : sz ≤ 9223372036854775807) (hs0 : 0 ≤ s) :
    Calls Try.prog 23 #[.int .i64 m, .int .i64 fr, .int .i64 sz, .int .i64 a, .int .u64 s] w fun e w' => e = .returned (.bool (decide (mayLie m fr sz a s))) ∧ w = w' := by
  obtain ⟨hm1, hm2⟩ := hm
  have no : ¬ mayLie m fr sz a s → decide (mayLie m fr sz a s) = false := fun h => decide_eq_false h
  have HN := Lib.hid no
  clear no
  by_cases h0 : fr < 0
  · have hd := HN.out (by unfold mayLie; omega)
    rw [hd]
    clear hd
    go_enter Try.func23, Try.ntmps23
    go_wp2
    go_ret
    exact ⟨rfl, rfl⟩
  replace h0 : 0 ≤ fr := by omega
  by_cases h1 : sz < 2
  · have hd := HN.out (by unfold mayLie; omega)
    rw [hd]
    clear hd
    go_enter Try.func23, Try.ntmps23
    go_wp2
    go_ret
    exact ⟨rfl, rfl⟩
  replace h1 : 2 ≤ sz := by omega
  by_cases h7 : m < sz
  · have hd := HN.out (by unfold mayLie; omega)
    rw [hd]
    clear hd
    go_enter Try.func23, Try.ntmps23
    go_wp2
    go_ret
    exact ⟨rfl, rfl⟩
  replace h7 : sz ≤ m := by omega
  by_cases h2 : m - sz < fr
  · have hd := HN.out (by unfold mayLie; omega)
    rw [hd]
    clear hd
    go_enter Try.func23, Try.ntmps23
    go_wp2
    go_ret
    exact ⟨rfl, rfl⟩
  replace h2 : fr ≤ m - sz := by omega
  by_cases h3 : a < 0
  · have hd := HN.out (by unfold mayLie; omega)
    rw [hd]
    clear hd
    go_enter Try.func23, Try.ntmps23
    go_wp2
    go_ret
    exact ⟨rfl, rfl⟩
  replace h3 : 0 ≤ a := by omega
  by_cases h4 : sz ≤ a
  · have hd := HN.out (by unfold mayLie; omega)
    rw [hd]
    clear hd
    go_enter Try.func23, Try.ntmps23
    go_wp2
    go_ret
    exact ⟨rfl, rfl⟩
  replace h4 : a < sz := by omega
  by_cases h5 : s < 1
  · have hd := HN.out (by unfold mayLie; omega)
    rw [hd]
    clear hd
    go_enter Try.func23, Try.ntmps23
    go_wp2
    go_ret
    exact ⟨rfl, rfl⟩
  replace h5 : 1 ≤ s := by omega
  by_cases h6 : 4611686018427387904 < s
  · have hd := HN.out (by unfold mayLie; omega)
    rw [hd]
    clear hd
    go_enter Try.func23, Try.ntmps23
    go_wp2
    go_ret
    refine ⟨?_, rfl⟩
    show Ending.returned (.bool (decide (s ≤ 4611686018427387904))) = _
    rw [decide_eq_false (by omega)]
  replace h6 : s ≤ 4611686018427387904 := by omega
  have hd : decide (mayLie m fr sz a s) = true := decide_eq_true ⟨h0, h1, h2, h3, h4, h5, h6⟩
  rw [hd]
  clear hd
  go_enter Try.func23, Try.ntmps23
  go_wp2
  go_ret
  exact ⟨rfl, rfl⟩

set_option maxRecDepth 100000 in
set_option maxHeartbeats 4000000 in
theorem journalArgs_any (m : Nat) (fr sz a : Int) (s : Nat) (n : Int) (w : World) (hm : m < 256) (hs : s < 18446744073709551616) (w1 : (Lit.int .i64 fr).wf = true) (w2 : (Lit.int .i64 sz).wf = true) (w3 : (Lit.int .i64 a).wf = true) (w5 : (Lit.int .i64 n).wf = true) :
    Calls Try.prog 5 #[.int .u8 (m : Int), .int .i64 fr, .int .i64 sz, .int .i64 a, .int .u64 (s : Int), .int .i64 n] w (Yes w) := by
  obtain ⟨f1, f2⟩ := bounds_i64 w1
  obtain ⟨s1, s2⟩ := bounds_i64 w2
  obtain ⟨a1, a2⟩ := bounds_i64 w3
  obtain ⟨n1, n2⟩ := bounds_i64 w5
  clear w1 w2 w3 w5
  have hM : (1 : Int) + (m : Int) % 60 = ((1 + m % 60 : Nat) : Int) := by omega
  have h1 := m_new (1 + m % 60) w (by omega) (by omega)
  rw [← hM] at h1
  have H1 := Lib.hid (And.intro h1 hM)
  clear h1 hM
  go_enter Try.func5, Try.ntmps5
  go_wp2_with fail
  refine H1.out.1.mono ?_
  rintro e w1 ⟨b, rfl, hM⟩
  have hmb : (1 : Int) ≤ 1 + (m : Int) % 60 ∧ (1 : Int) + (m : Int) % 60 ≤ 4096 := by omega
  have hlen : ((fresh (1 + m % 60)).bk.length : Int) = 1 + (m : Int) % 60 := by rw [H1.out.2]; simp [fresh]
  have hR := refRight_any (1 + (m : Int) % 60) fr sz a (s : Int)
  -- what Open answers
  have hO : Calls Try.prog 22 #[ptr b, .int .i64 fr, .int .i64 sz, .int .i64 a, .int .u64 (s : Int)] w1 fun e w' => ∃ jv la lc c, e = .returned (.tuple #[.pointer jv, .slice la 0 lc, err c]) ∧ Below w.heap.size w w' ∧
      (mayLie (1 + (m : Int) % 60) fr sz a s ∧ (∃ p, jv = some ⟨p, 0, none⟩) ∧ c = 0 ∨ ¬ mayLie (1 + (m : Int) % 60) fr sz a s ∧ jv = none ∧ c = 1) := by
    by_cases hy : mayLie (1 + (m : Int) % 60) fr sz a s
    · have hy' := hy
      obtain ⟨k0, k1, k2, k3, k4, k5, k6⟩ := hy'
      obtain ⟨fr, rfl⟩ := Int.eq_ofNat_of_zero_le k0
      obtain ⟨sz, rfl⟩ := Int.eq_ofNat_of_zero_le (show 0 ≤ sz by omega)
      obtain ⟨a, rfl⟩ := Int.eq_ofNat_of_zero_le k3
      refine (has_new hM (by omega) (by omega) (by omega) (by omega)).mono ?_
      rintro e w' ⟨lv, G, rfl, hrow, h⟩
      obtain ⟨la, lc, rfl⟩ := hrow.shape
      exact ⟨_, la, lc, 0, rfl, h.under, .inl ⟨hy, ⟨_, rfl⟩, rfl⟩⟩
    · obtain ⟨F, hD, fo, hu⟩ := hM
      refine (open_bad hD s2 (by omega) (by rw [hlen]; exact hy)).mono ?_
      rintro e w' ⟨rfl, rfl⟩
      exact ⟨none, none, 0, 1, rfl, hu, .inr ⟨hy, rfl, rfl⟩⟩
  have H2 := Lib.hid (And.intro hO (fun w => hR w hmb s2 (by omega)))
  clear hO hR hmb hlen hM
  go_wp2_with fail
  refine H2.out.1.mono ?_
  rintro e w2 ⟨jv, la, lc, c, rfl, hb, hcase⟩
  have HC := Lib.hid (And.intro hb hcase)
  clear hb hcase
  go_wp2_with fail
  refine (H2.out.2 _).mono ?_
  rintro e w3 ⟨he, rfl⟩
  obtain ⟨B, hB⟩ : ∃ B, decide (mayLie (1 + (m : Int) % 60) fr sz a s) = B := ⟨_, rfl⟩
  rw [hB] at he
  have hcase := HC.out.2
  have HB := Lib.hid hB
  -- either way
  have hw : (B = true ∧ ∃ p, jv = some ⟨p, 0, none⟩ ∧ c = 0) ∨ (B = false ∧ jv = none ∧ c = 1) := by
    rcases hcase with ⟨hy, ⟨p, hp⟩, hc⟩ | ⟨hn, hj, hc⟩
    · exact .inl ⟨by rw [← hB]; exact decide_eq_true hy, p, hp, hc⟩
    · exact .inr ⟨by rw [← hB]; exact decide_eq_false hn, hj, hc⟩
  clear hcase hB
  subst he
  have key : ∀ (p : Nat), True := fun _ => trivial
  rcases hw with ⟨rfl, p, rfl, rfl⟩ | ⟨rfl, rfl, rfl⟩
  · go_wp2_with fail
    refine (open_nil fr sz a (s : Int) _).mono ?_
    rintro e w4 ⟨rfl, rfl⟩
    go_wp2_with fail
    refine (mark_nil _).mono ?_
    rintro e w5 ⟨rfl, rfl⟩
    go_wp2_with fail
    refine (append_nil _ _).mono ?_
    rintro e w6 ⟨rfl, rfl⟩
    go_wp2_with fail
    refine (forget_nil _).mono ?_
    rintro e w7 ⟨rfl, rfl⟩
    go_wp2_with fail
    refine (free_nil _).mono ?_
    rintro e w8 ⟨rfl, rfl⟩
    by_cases hn : 1048576 < n
    · go_wp2_with fail
      refine (works_any _).mono ?_
      rintro e w9 ⟨rfl, hb9⟩
      go_wp2
      go_ret
      exact ⟨rfl, HC.out.1.trans (hb9.mono HC.out.1.size)⟩
    · have hn' : n ≤ 1048576 := by omega
      go_wp2_with fail
      refine (blocks_any n _ n1 n2).mono ?_
      rintro e w9 ⟨rfl, rfl⟩
      go_wp2_with fail
      refine (refBlocks_any n _ (by omega)).mono ?_
      rintro e w9 ⟨rfl, rfl⟩
      generalize ((nBlocks n.toNat : Nat) : Int) = nb at *
      go_wp2_with fail
      refine (works_any _).mono ?_
      rintro e w9 ⟨rfl, hb9⟩
      go_wp2
      go_ret
      exact ⟨rfl, HC.out.1.trans (hb9.mono HC.out.1.size)⟩
  · go_wp2_with fail
    refine (open_nil fr sz a (s : Int) _).mono ?_
    rintro e w4 ⟨rfl, rfl⟩
    go_wp2_with fail
    refine (mark_nil _).mono ?_
    rintro e w5 ⟨rfl, rfl⟩
    go_wp2_with fail
    refine (append_nil _ _).mono ?_
    rintro e w6 ⟨rfl, rfl⟩
    go_wp2_with fail
    refine (forget_nil _).mono ?_
    rintro e w7 ⟨rfl, rfl⟩
    go_wp2_with fail
    refine (free_nil _).mono ?_
    rintro e w8 ⟨rfl, rfl⟩
    by_cases hn : 1048576 < n
    · go_wp2_with fail
      refine (works_any _).mono ?_
      rintro e w9 ⟨rfl, hb9⟩
      go_wp2
      go_ret
      exact ⟨rfl, HC.out.1.trans (hb9.mono HC.out.1.size)⟩
    · have hn' : n ≤ 1048576 := by omega
      go_wp2_with fail
      refine (blocks_any n _ n1 n2).mono ?_
      rintro e w9 ⟨rfl, rfl⟩
      go_wp2_with fail
      refine (refBlocks_any n _ (by omega)).mono ?_
      rintro e w9 ⟨rfl, rfl⟩
      generalize ((nBlocks n.toNat : Nat) : Int) = nb at *
      go_wp2_with fail
      refine (works_any _).mono ?_
      rintro e w9 ⟨rfl, hb9⟩
      go_wp2
      go_ret
      exact ⟨rfl, HC.out.1.trans (hb9.mono HC.out.1.size)⟩
end Go.Proofs.Ytijkkkiejdaljaa
