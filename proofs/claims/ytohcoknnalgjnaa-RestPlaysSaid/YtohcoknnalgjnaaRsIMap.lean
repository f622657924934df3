/- How often each number comes, in a map of the program's own; condition: few entries, small counts. -/
import Derived.Test.YtohcoknnalgjnaaRsBotP
import Derived.Test.YtohcoknnalgjnaaNtRel
import Derived.Maps.OwnSet
import Derived.Maps.StringElems
namespace Go.Proofs.Ytohcoknnalgjnaa
open Go.RowKit Go.Maps

theorem int_law : Keyed Try.prog 3 := int_keyed Try.underlying3
theorem zero_i64 : ∀ w : World, (zeroValue 2).run Try.prog w = .ok (.int .i64 0) w := fun w => by kernel_rfl
theorem wf_small {x : Int} (h : -9223372036854775808 ≤ x) (h2 : x ≤ 9223372036854775807) : (Lit.int .i64 x).wf = true := by
  simp only [Lit.wf, IntKind.min, IntKind.max, IntKind.signed, IntKind.bits, Bool.and_eq_true, decide_eq_true_eq, if_true]
  omega
theorem key_int {x : Int} (h : -9223372036854775808 ≤ x) (h2 : x ≤ 9223372036854775807) : keyOf Try.prog 3 (.int .i64 x) = some (.int .i64 x) := keyOf_int_mk Try.underlying3 (wf_small h h2)
/-- Block mb is a map of at most k entries: of number e it holds f e. -/
def IMap (w : World) (mb k : Nat) (f : Nat → Int) : Prop :=
  ∃ Dm : DataW Unit, w.ownsMap Try.prog 3 (plainElem Try.prog 2) mb k Dm ∧ ∀ e : Nat, Dm.atKey (.int .i64 (e : Int)) (.lit (.int .i64 0)) = .lit (.int .i64 (f e))
section
variable {w w' : World} {mb k : Nat} {f : Nat → Int}
theorem imap_new (w : World) : IMap (w.alloc (.map #[] 0)) w.heap.size 0 (fun _ => 0) := ⟨.map [], World.ownsMap_made _ _ _ _, fun _ => rfl⟩
theorem IMap.kept (h : IMap w mb k f) (hk : w'.heap[mb]? = w.heap[mb]?) : IMap w' mb k f := by
  obtain ⟨Dm, ⟨es, clock, hb, r⟩, h2⟩ := h
  exact ⟨Dm, ⟨es, clock, hk.trans hb, r⟩, h2⟩
theorem IMap.lt (h : IMap w mb k f) : mb < w.heap.size := let ⟨_, h, _⟩ := h; h.lt
theorem IMap.below (h : IMap w mb k f) (hb : Below w.heap.size w w') : IMap w' mb k f := h.kept (hb.block mb h.lt)
theorem IMap.look (h : IMap w mb k f) {m : Nat} (hm : m ≤ 9223372036854775807) : (Instr.lookup 56 (.map (some mb)) (.int .i64 (m : Int)) false).run Try.prog w = .ok (.int .i64 (f m)) w := by
  obtain ⟨Dm, h, hf⟩ := h
  obtain ⟨u, ps, hr, hu⟩ := h.lookup (t := 56) int_law Try.underlying56 (zero_i64 w) (zd := .lit (.int .i64 0)) (zp := []) (plainElem_int Try.underlying2 (by decide)) (key_int (x := (m : Int)) (by omega) (by omega))
  obtain ⟨x, rfl, hx, _⟩ := plainElem_int_inv Try.underlying2 hu
  have h1 := congrArg Prod.fst hx
  simp only at h1
  rw [hf m] at h1
  have : f m = x := by simpa using h1
  rw [hr, this]
theorem IMap.put (h : IMap w mb k f) {m : Nat} (hm : m ≤ 9223372036854775807) {x : Int} (hx : -9223372036854775808 ≤ x) (hx2 : x ≤ 9223372036854775807) (hk : k < maxLen) :
    ∃ w', (Instr.mapUpdate 56 (.map (some mb)) (.int .i64 (m : Int)) (.int .i64 x)).run Try.prog w = .ok () w' ∧ IMap w' mb (k + 1) (fun e => if e = m then x else f e) ∧ Only (· = mb) w w' := by
  obtain ⟨Dm, h, hf⟩ := h
  obtain ⟨w', h1, h2, h3⟩ := h.store (t := 56) int_law Try.underlying56 hk (key_int (x := (m : Int)) (by omega) (by omega)) (plainElem_int Try.underlying2 (wf_small hx hx2))
  refine ⟨w', h1, ⟨_, h2, fun e => ?_⟩, ?_⟩
  · show _ = DataW.lit (.int .i64 (if e = m then x else f e))
    by_cases he : e = m
    · subst he
      rw [if_pos rfl]
      exact atKey_put_same h.isMap (show WideAt.IsKeyLit (.int .i64 (e : Int)) from trivial) _ _
    · rw [if_neg he, atKey_put_other (by simp; omega)]
      exact hf e
  · have g := h3.grown
    exact ⟨g.os, g.tape, g.output, g.size, fun q hq hn => g.block q hq fun e => hn (by simpa using e)⟩
end
end Go.Proofs.Ytohcoknnalgjnaa
