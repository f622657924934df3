/- Open of a journal: a journal and what it holds, or why not; condition: the device is on and lies in memory. -/
import Derived.Test.YtijkkkiejdaljaaJrFind
namespace Go.Proofs.Ytijkkkiejdaljaa
open Go.RowKit

/-- May a journal lie there? -/
def mayLie (m fr sz at_ sq : Int) : Prop := 0 ≤ fr ∧ 2 ≤ sz ∧ fr ≤ m - sz ∧ 0 ≤ at_ ∧ at_ < sz ∧ 1 ≤ sq ∧ sq ≤ 4611686018427387904
instance (m fr sz at_ sq : Int) : Decidable (mayLie m fr sz at_ sq) := by unfold mayLie; exact inferInstance

def newJ (fr sz a s : Nat) : Jn := ⟨fr, sz, a, s, 0, 0, 0, false⟩

section
variable {w w' : World} {b : Nat} {D : Dv} {F : Nat → Prop}

theorem open_nil (fr sz a s : Int) (w : World) : Calls Try.prog 22 #[.pointer none, .int .i64 fr, .int .i64 sz, .int .i64 a, .int .u64 s] w fun e w' => e = .returned (.tuple #[.pointer none, nilSl, err 2]) ∧ w = w' := by
  go_enter Try.func22, Try.ntmps22
  go_wp2
  go_ret3
  exact ⟨rfl, rfl⟩

set_option maxHeartbeats 1000000 in
theorem open_bad (hD : Dev w b D F) {fr sz a s : Int} (hr : sz ≤ 9223372036854775807) (hs0 : 0 ≤ s) (hn : ¬ mayLie D.bk.length fr sz a s) :
    Calls Try.prog 22 #[ptr b, .int .i64 fr, .int .i64 sz, .int .i64 a, .int .u64 s] w fun e w' => e = .returned (.tuple #[.pointer none, nilSl, err 1]) ∧ w = w' := by
  have hfew : (D.bk.length : Int) ≤ 4096 := by
    obtain ⟨_, _, _, _, _, h⟩ := hD
    have := h.few
    omega
  have hpos : (0 : Int) ≤ D.bk.length := by omega
  have HD := Lib.hid hD
  have hsz := size_any hD
  have HS := Lib.hid hsz
  unfold mayLie at hn
  clear hD hsz
  generalize (D.bk.length : Int) = m at *
  by_cases h0 : fr < 0
  · clear hn
    go_enter Try.func22, Try.ntmps22
    go_wp2
    go_ret3
    exact ⟨rfl, rfl⟩
  replace h0 : 0 ≤ fr := by omega
  by_cases h1 : sz < 2
  · clear hn
    go_enter Try.func22, Try.ntmps22
    go_wp2
    go_ret3
    exact ⟨rfl, rfl⟩
  replace h1 : 2 ≤ sz := by omega
  by_cases h2 : m - sz < fr
  · clear hn
    go_enter Try.func22, Try.ntmps22
    go_wp2_with fail
    refine HS.out.mono ?_
    rintro e w1 ⟨rfl, rfl⟩
    go_wp2
    go_ret3
    exact ⟨rfl, rfl⟩
  replace h2 : fr ≤ m - sz := by omega
  by_cases h3 : a < 0
  · clear hn
    go_enter Try.func22, Try.ntmps22
    go_wp2_with fail
    refine HS.out.mono ?_
    rintro e w1 ⟨rfl, rfl⟩
    go_wp2
    go_ret3
    exact ⟨rfl, rfl⟩
  replace h3 : 0 ≤ a := by omega
  by_cases h4 : sz ≤ a
  · clear hn
    go_enter Try.func22, Try.ntmps22
    go_wp2_with fail
    refine HS.out.mono ?_
    rintro e w1 ⟨rfl, rfl⟩
    go_wp2
    go_ret3
    exact ⟨rfl, rfl⟩
  replace h4 : a < sz := by omega
  by_cases h5 : s < 1
  · clear hn
    go_enter Try.func22, Try.ntmps22
    go_wp2_with fail
    refine HS.out.mono ?_
    rintro e w1 ⟨rfl, rfl⟩
    go_wp2
    go_ret3
    exact ⟨rfl, rfl⟩
  replace h5 : 1 ≤ s := by omega
  have h6 : 4611686018427387904 < s := by omega
  clear hn
  go_enter Try.func22, Try.ntmps22
  go_wp2_with fail
  refine HS.out.mono ?_
  rintro e w1 ⟨rfl, rfl⟩
  go_wp2
  go_ret3
  exact ⟨rfl, rfl⟩

/-- What Open answers. -/
def OpensJ (w : World) (b : Nat) (J : Jn) (m : List (Bytes × Spot)) (e : Ending) (w' : World) : Prop :=
  ∃ lv G, e = .returned (.tuple #[ptr w.heap.size, lv, err 0]) ∧ RowG w' G lv (m.map Prod.fst) ∧ (∀ q, G q → w.heap.size < q ∧ q < w'.heap.size) ∧ JAt w' w.heap.size b (foundJ J m) ∧ Below w.heap.size w w'

set_option maxHeartbeats 1000000 in
theorem open_ok (hD : Dev w b D F) (ho : D.on = true) {fr sz a s : Nat} (hm : mayLie D.bk.length fr sz a s) :
    Calls Try.prog 22 #[ptr b, .int .i64 (fr : Int), .int .i64 (sz : Int), .int .i64 (a : Int), .int .u64 (s : Int)] w
      (OpensJ w b (newJ fr sz a s) (scan a s (standsFrom fr sz a D.bk 0) (0, 0) [])) := by
  have hfew : (D.bk.length : Int) ≤ 4096 := by
    obtain ⟨_, _, _, _, _, h⟩ := hD
    have := h.few
    omega
  have HS := Lib.hid (size_any hD)
  have HD := Lib.hid (And.intro hD (And.intro ho hm))
  obtain ⟨h0, h1, h2, h3, h4, h5, h6⟩ := hm
  clear hD ho
  unfold OpensJ
  have HL := Lib.hid hfew
  obtain ⟨m, hmm⟩ : ∃ m, (D.bk.length : Int) = m := ⟨_, rfl⟩
  rw [hmm] at h2 hfew
  rw [hmm] at HS
  clear hmm
  go_enter Try.func22, Try.ntmps22
  go_wp2_with fail
  refine HS.out.mono ?_
  rintro e w1 ⟨rfl, rfl⟩
  go_wp2_with fail
  have bw := (Below.refl w.heap.size w).alloc (Nat.le_refl _) (.cells #[ptr b, .int .i64 (fr : Int), .int .i64 (sz : Int), .int .i64 (a : Int), .int .u64 (s : Int), .int .u64 0, .int .i64 0, .int .u64 0, .bool false] 67)
  have hj : JAt (w.alloc (.cells #[ptr b, .int .i64 (fr : Int), .int .i64 (sz : Int), .int .i64 (a : Int), .int .u64 (s : Int), .int .u64 0, .int .i64 0, .int .u64 0, .bool false] 67)) w.heap.size b (newJ fr sz a s) := Cel.new w _ _
  have hsz1 : (w.alloc (.cells #[ptr b, .int .i64 (fr : Int), .int .i64 (sz : Int), .int .i64 (a : Int), .int .u64 (s : Int), .int .u64 0, .int .i64 0, .int .u64 0, .bool false] 67)).heap.size = w.heap.size + 1 := by simp
  have hml := HD.out.2.2
  have hL := HL.out
  obtain ⟨k0, k1, k2, k3, k4, k5, k6⟩ := hml
  have hfit : (newJ fr sz a s).Fit := ⟨by simp only [newJ]; omega, by simp only [newJ]; omega, by simp only [newJ]; omega, by simp only [newJ]; omega, by simp only [newJ]; omega, by simp only [newJ]; omega⟩
  have hfind : Calls Try.prog 38 #[.pointer (some ⟨w.heap.size, 0, none⟩)] _ (Finds _ w.heap.size b (newJ fr sz a s) (scan a s (standsFrom fr sz a D.bk 0) (0, 0) [])) :=
    find_any hj hfit (HD.out.1.below bw) (fun hf => by have := HD.out.1.fl _ hf; omega) HD.out.2.1 (by simp only [newJ]; omega) (by simp only [newJ]; omega)
  clear k0 k1 k2 k3 k4 k5 k6 hL hfit hj
  refine hfind.mono ?_
  rintro e w2 ⟨lv, G, rfl, hrow, hG, hj2, ho2⟩
  have hbw : Below w.heap.size w w2 := bw.trans (ho2.below (by omega) (fun q e => by omega))
  rw [hsz1] at hG
  have H2 := Lib.hid (And.intro hrow (And.intro hG (And.intro hj2 hbw)))
  clear hfind hrow hG hj2 ho2 hbw bw hsz1
  go_wp2
  go_ret3
  exact ⟨lv, G, rfl, H2.out.1, fun q hq => ⟨by have := (H2.out.2.1 q hq).1; omega, (H2.out.2.1 q hq).2⟩, H2.out.2.2.1, H2.out.2.2.2⟩
end
end Go.Proofs.Ytijkkkiejdaljaa
