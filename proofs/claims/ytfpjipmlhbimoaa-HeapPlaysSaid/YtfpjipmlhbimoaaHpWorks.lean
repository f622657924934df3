/- Heaps beside other things in memory; the statements' anchor: the chapter's example; no condition. -/
import Derived.Test.YtfpjipmlhbimoaaHpCalls
import Derived.Test.YtfpjipmlhbimoaaSep
namespace Go.Proofs.Ytfpjipmlhbimoaa
open Go.RowKit

instance (a b : Th) : Decidable (Le a b) := by unfold Le; exact inferInstance
instance (l : List Th) (x : Th) : Decidable (Fst l x) := by unfold Fst; exact inferInstance

/-- A heap at b with these things. -/
def RH (b : Nat) (l : List Th) : Res := fun w F => Hp w b l F
theorem RH.fr (b : Nat) (l : List Th) : Fr (RH b l) := ⟨fun h _ hq => Hp.lt h hq, fun h hk => Hp.kept h hk⟩

section
variable {w0 w w' : World} {b : Nat} {l m : List Th} {x : Th} {T : Res}
theorem SL.permH (h : SL w0 w (Sep (RH b l) T)) (hp : l.Perm m) : SL w0 w (Sep (RH b m) T) := h.map fun _ ⟨F1, F2, h1, h2⟩ => ⟨F1, F2, Hp.perm h1 hp, h2⟩
theorem q_new (h : SL w0 w T) (fr : Fr T) : Calls Try.prog 9 #[] w fun e w' => e = .returned (ptr w.heap.size) ∧ SL w0 w' (Sep (RH w.heap.size []) T) := by
  refine (new_any w).mono ?_
  rintro e w' ⟨rfl, hp, hb⟩
  refine ⟨rfl, h.add fr hb hp fun q hq => ⟨by rw [hq]; exact Nat.le_refl _, hp.lt hq⟩⟩
theorem q_push (h : SL w0 w (Sep (RH b l) T)) (fr : Fr T) (k i : Int) (hn : l.length ≤ 4294967290) : Calls Try.prog 10 #[ptr b, .int .i64 k, .int .i64 i] w fun e w' => e = .returned (err 0) ∧ SL w0 w' (Sep (RH b ((k, i) :: l)) T) :=
  h.call fr (RH.fr b _) fun _ hR => push_any hR k i hn
theorem q_pop (h : SL w0 w (Sep (RH b l) T)) (fr : Fr T) (hx : Fst l x) (hn : l.length ≤ 4294967290) : Calls Try.prog 12 #[ptr b] w fun e w' => e = .returned (.tuple #[.int .i64 x.1, .int .i64 x.2, err 0]) ∧ SL w0 w' (Sep (RH b (l.erase x)) T) :=
  h.call fr (RH.fr b _) fun F hR => (pop_some hR hx hn).mono fun _ _ ⟨h1, h2, h3⟩ => ⟨h1, F, h2, h3⟩
theorem q_pop0 (h : SL w0 w (Sep (RH b []) T)) (fr : Fr T) : Calls Try.prog 12 #[ptr b] w fun e w' => e = .returned (.tuple #[.int .i64 0, .int .i64 0, err 4]) ∧ SL w0 w' (Sep (RH b []) T) :=
  h.look (RH.fr b _) fr fun _ hR => (pop_none hR).mono fun _ _ ⟨h1, h2⟩ => ⟨h1, h2 ▸ Below.refl _ _⟩
theorem q_peek (h : SL w0 w (Sep (RH b l) T)) (fr : Fr T) (hx : Fst l x) : Calls Try.prog 14 #[ptr b] w fun e w' => e = .returned (.tuple #[.int .i64 x.1, .int .i64 x.2, err 0]) ∧ SL w0 w' (Sep (RH b l) T) :=
  h.look (RH.fr b _) fr fun _ hR => peek_some hR hx
theorem q_peek0 (h : SL w0 w (Sep (RH b []) T)) (fr : Fr T) : Calls Try.prog 14 #[ptr b] w fun e w' => e = .returned (.tuple #[.int .i64 0, .int .i64 0, err 4]) ∧ SL w0 w' (Sep (RH b []) T) :=
  h.look (RH.fr b _) fr fun _ hR => (peek_none hR).mono fun _ _ ⟨h1, h2⟩ => ⟨h1, h2 ▸ Below.refl _ _⟩
theorem q_len (h : SL w0 w (Sep (RH b l) T)) (fr : Fr T) : Calls Try.prog 16 #[ptr b] w fun e w' => e = .returned (.int .i64 (l.length : Nat)) ∧ SL w0 w' (Sep (RH b l) T) :=
  h.look (RH.fr b _) fr fun _ hR => (len_any hR).mono fun _ _ ⟨h1, h2⟩ => ⟨h1, h2 ▸ Below.refl _ _⟩

set_option maxRecDepth 100000 in
set_option maxHeartbeats 4000000 in
theorem works_any (w : World) : Calls Try.prog 8 #[] w fun e w' => e = .returned (.bool true) ∧ Below w.heap.size w w' := by
  go_enter Try.func8, Try.ntmps8
  go_wp2_with fail
  refine (q_new (SL.start w) Emp.fr).mono ?_
  rintro e w1 ⟨rfl, h⟩
  generalize w.heap.size = b at *
  go_wp2_with fail
  refine (q_push h Emp.fr 5 1 (by simp)).mono ?_
  rintro e w2 ⟨rfl, h2⟩
  clear h
  go_wp2_with fail
  refine (q_push h2 Emp.fr 3 9 (by simp)).mono ?_
  rintro e w3 ⟨rfl, h⟩
  clear h2
  go_wp2_with fail
  refine (q_push h Emp.fr 3 2 (by simp)).mono ?_
  rintro e w4 ⟨rfl, h2⟩
  clear h
  go_wp2_with fail
  refine (q_pop h2 Emp.fr (x := (3, 2)) (by decide) (by simp)).mono ?_
  rintro e w5 ⟨rfl, h⟩
  have h : SL w w5 (Sep (RH b [(3, 9), (5, 1)]) Emp) := h
  clear h2
  go_wp2_with fail
  refine (q_pop h Emp.fr (x := (3, 9)) (by decide) (by simp)).mono ?_
  rintro e w6 ⟨rfl, h2⟩
  have h2 : SL w w6 (Sep (RH b [(5, 1)]) Emp) := h2
  clear h
  go_wp2_with fail
  refine (q_pop h2 Emp.fr (x := (5, 1)) (by decide) (by simp)).mono ?_
  rintro e w7 ⟨rfl, h⟩
  have h : SL w w7 (Sep (RH b []) Emp) := h
  clear h2
  go_wp2_with fail
  refine (q_pop0 h Emp.fr).mono ?_
  rintro e w8 ⟨rfl, h2⟩
  clear h
  go_wp2
  go_ret
  exact ⟨rfl, h2.under⟩
end
end Go.Proofs.Ytfpjipmlhbimoaa
