/- The statement HeapNil: of no heap; two heaps do not hang together; no condition. -/
import Derived.Test.YtfpjipmlhbimoaaHpWorks
namespace Go.Proofs.Ytfpjipmlhbimoaa
open Go.RowKit

set_option maxRecDepth 100000 in
set_option maxHeartbeats 4000000 in
theorem heapNil_any (k i : Int) (w : World) {p q : Prop} (_ : p) (_ : q) : Calls Try.prog 6 #[.int .i64 k, .int .i64 i] w fun e w' => e = .returned (.bool true) ∧ Below w.heap.size w w' := by
  go_enter Try.func6, Try.ntmps6
  go_wp2_with fail
  refine (pop_nil w).mono ?_
  rintro e w1 ⟨rfl, rfl⟩
  go_wp2_with fail
  refine (peek_nil w).mono ?_
  rintro e w1 ⟨rfl, rfl⟩
  go_wp2_with fail
  refine (q_new (SL.start w) Emp.fr).mono ?_
  rintro e w1 ⟨rfl, h⟩
  generalize w.heap.size = a at *
  go_wp2_with fail
  refine (q_new h (RH.fr _ _ |>.sep Emp.fr)).mono ?_
  rintro e w2 ⟨rfl, h2⟩
  generalize w1.heap.size = b at *
  clear h
  go_wp2_with fail
  refine (push_nil k i w2).mono ?_
  rintro e w3 ⟨rfl, rfl⟩
  go_wp2_with fail
  refine (len_nil w2).mono ?_
  rintro e w3 ⟨rfl, rfl⟩
  go_wp2_with fail
  refine (q_push h2.rot (RH.fr _ _ |>.sep Emp.fr) k i (by simp)).mono ?_
  rintro e w3 ⟨rfl, h⟩
  clear h2
  go_wp2_with fail
  refine (q_peek0 h.rot (RH.fr _ _ |>.sep Emp.fr)).mono ?_
  rintro e w4 ⟨rfl, h2⟩
  clear h
  go_wp2_with fail
  refine (q_len h2 (RH.fr _ _ |>.sep Emp.fr)).mono ?_
  rintro e w5 ⟨rfl, h⟩
  clear h2
  go_wp2_with fail
  refine (q_len h.rot (RH.fr _ _ |>.sep Emp.fr)).mono ?_
  rintro e w6 ⟨rfl, h2⟩
  clear h
  go_wp2_with fail
  refine (works_any w6).mono ?_
  rintro e w7 ⟨rfl, hb⟩
  go_wp2
  go_ret
  exact ⟨rfl, h2.under.trans (hb.mono h2.under.size)⟩
end Go.Proofs.Ytfpjipmlhbimoaa
