/- The walk of DeviceNil: it returns true and writes nothing that was there; no condition. -/
import Derived.Test.YtcgecjedgbmmkaaDevWorks
namespace Go.Proofs.Ytcgecjedgbmmkaa
open Go.RowKit Go.Maps

set_option maxRecDepth 100000 in
set_option maxHeartbeats 4000000 in
theorem deviceNil_any {v : Value} {l : Bytes} (k n : Int) (w : World) (hb : Bs w v l) (_ : (Lit.int .i64 k).wf = true) (hn : (Lit.int .i64 n).wf = true) :
    Calls Try.prog 6 #[.int .i64 k, .int .i64 n, v] w (Yes w) := by
  have hn' := bounds_i64 hn
  have HN := Lib.hid hn'
  clear hn hn'
  obtain ⟨a, c, rfl, _⟩ := hb.shape
  by_cases hl : 2000 < l.length
  · have hd : ((2000 : Int) < (l.length : Int)) := by omega
    go_enter Try.func6, Try.ntmps6
    go_wp2_with fail
    refine (works_any _).mono ?_
    rintro e w4 ⟨rfl, b4⟩
    go_wp2
    go_ret
    exact ⟨rfl, b4⟩
  · have hd : decide ((2000 : Int) < (l.length : Int)) = false := by simp; omega
    clear hl
    go_enter Try.func6, Try.ntmps6
    go_wp2_with fail
    refine (read_nil k _).mono ?_
    rintro e w1 ⟨rfl, rfl⟩
    go_wp2_with fail
    refine (write_nil k _ _).mono ?_
    rintro e w1 ⟨rfl, rfl⟩
    go_wp2_with fail
    refine (flush_nil _).mono ?_
    rintro e w1 ⟨rfl, rfl⟩
    go_wp2_with fail
    refine (arm_nil n _).mono ?_
    rintro e w1 ⟨rfl, rfl⟩
    go_wp2_with fail
    refine (off_nil _).mono ?_
    rintro e w1 ⟨rfl, rfl⟩
    go_wp2_with fail
    have hv : Iv (w.alloc (.cells #[.int .i64 n] 3)) (.slice (some ⟨w.heap.size, 0, none⟩) 1 1) [n] := by
      refine ⟨some ⟨w.heap.size, 0, none⟩, 1, rfl, by simp, (fun e => by cases e), fun ad had i u hu => ?_, fun u hu => ?_⟩
      · cases had
        rw [Addr.add_lit, Nat.zero_add, (Cel.new w _ _).cell]
        match i, hu with
        | 0, hu => simp at hu; subst hu; rfl
        | i + 1, hu => simp at hu
      · simp at hu
        subst hu
        exact HN.out
    refine (on_nil _ hv).mono ?_
    rintro e w2 ⟨rfl, b2⟩
    have b2' : Below w.heap.size w w2 := ((Below.refl _ _).alloc (Nat.le_refl _) _).trans (b2.mono (by simp))
    clear hv b2
    go_wp2_with fail
    refine (size_nil _).mono ?_
    rintro e w3 ⟨rfl, rfl⟩
    go_wp2_with fail
    refine (power_nil _).mono ?_
    rintro e w3 ⟨rfl, rfl⟩
    go_wp2_with fail
    refine (works_any _).mono ?_
    rintro e w4 ⟨rfl, b4⟩
    go_wp2
    go_ret
    exact ⟨rfl, b2'.trans (b4.mono b2'.size)⟩
end Go.Proofs.Ytcgecjedgbmmkaa
