/- A range over a function's value whose rounds go on, or leave by a return; a call whose frame bears marks, walked as any other; no condition. -/
import Derived.Test.YtijkkkiejdaljaaFoot
import Derived.RangeFuncNested
import Derived.RangeFuncBound
import Derived.RangeFuncCalls
import Derived.RangeFuncLeaves
import Derived.OwnWalkIn
import Derived.TacticsInMore
import Derived.LoopNIn
import Derived.LoopIn
namespace Go.Proofs.Ytijkkkiejdaljaa
open Go.RowKit

/-- The body goes on, or returns. -/
def GoesOr (R Rx : World → Prop) : Exit → Act → World → Prop
  | .normal, _, w => R w
  | .ret, _, w => Rx w
  | _, _, _ => False
theorem GoesOr.let {R Rx : World → Prop} : ¬ LetsOut (GoesOr R Rx) := by
  rintro ⟨a, w, h⟩
  exact h

/-- One round, out of a walk of the assignments and one of the body. -/
theorem yield_two {n l D fn : Nat} {P : Program} {tmps : Array Value} {ps : Array Tmp} {assign body : Code} {W : World} {args : Array Value} {R Rx : World → Prop} {rec : LoopState → Option Code → Loop}
    (hrec : rec = fun st pe => { state := st, pending := pe, fn, tmps := tmps, params := ps, assign, body, defers := D })
    (hl : W.heap[l]? = some (.loop (rec .ready none))) (hs : args.size = ps.size) {a₁ : Act}
    (ha : ∀ K : Act → World → Prop, K a₁ W → assign.wpIn (Fence.wide.inRound l) n P (Exit.then K (fun _ _ _ => False)) { tmps := (ps.zip args).foldl (fun t (p, v) => t.setIfInBounds p v) tmps, defers := [] } W)
    (hb : body.wpIn (Fence.wide.inRound l) n P (GoesOr (fun W' => W'.heap[l]? = some (.loop (rec .busy none)) ∧ R (W'.putObj l (.loop (rec .ready none)))) (fun W' => W'.heap[l]? = some (.loop (rec .busy none)) ∧ Rx (W'.putObj l (.loop (rec .done (some .ret))))))
      a₁ (W.putObj l (.loop (rec .busy none)))) :
    YieldAt Fence.wide n P l args W fun e W' => (e = .returned (.bool true) ∧ R W') ∨ (e = .returned (.bool false) ∧ Rx W') := by
  have hy := run_yield (P := P) (args := args) hl (by rw [hrec]; exact hs)
  rw [hrec] at hy
  refine ⟨fn, _, assign, body, hy, roundIn_of_wpIn trivial (ha _ ⟨_, run_beginRound hl (by rw [hrec]), ?_⟩)⟩
  have e1 : ({ rec .ready none with state := .busy } : Loop) = rec .busy none := by rw [hrec]
  rw [e1]
  refine wpIn_mono hb ?_
  rintro e a3 W3 hp
  cases e with
  | normal =>
    obtain ⟨hl3, hR⟩ := hp
    have := run_endRound (P := P) none hl3
    have e2 : ({ rec .busy none with state := if (none : Option Code).isNone then .ready else .done, pending := none } : Loop) = rec .ready none := by rw [hrec]; rfl
    rw [e2] at this
    exact ⟨_, _, this, .inl ⟨rfl, hR⟩⟩
  | ret =>
    obtain ⟨hl3, hR⟩ := hp
    have := run_endRound (P := P) (some .ret) hl3
    have e2 : ({ rec .busy none with state := if (some Code.ret).isNone then .ready else .done, pending := some .ret } : Loop) = rec .done (some .ret) := by rw [hrec]; rfl
    rw [e2] at this
    exact ⟨_, _, this, .inr ⟨rfl, hR⟩⟩
  | exit id => exact hp.elim
  | goto t => exact hp.elim
  | panic ch => exact hp.elim
  | outgrown => exact hp.elim

/-- The statement. -/
theorem range_two {n : Nat} {P : Program} {g : Operand} {ps : Array Tmp} {assign body : Code} {Q : Exit → Act → World → Prop} {a : Act} {w : World} (h1 : 1 ≤ n) {gf : Nat} {lb : Array Value} (hg : a.eval g = .func (.func gf) #[] lb)
    (eg : ∀ args w, (callFunc gf args).run P w = .ok (.enter gf args) w)
    (h : ∀ (fn : Nat) (rec : LoopState → Option Code → Loop) (W1 : World), rec = (fun st pe => { state := st, pending := pe, fn, tmps := a.tmps, params := ps, assign, body, defers := w.heap.size }) →
      W1 = (w.alloc (.deferred (some []))).alloc (.loop (rec .ready none)) →
      CallsIn Fence.wide (n - 1) P gf (#[.func (.yield (w.heap.size + 1)) #[] #[]] ++ lb) W1 fun e W2 => (∃ v, e = .returned v) ∧
        ((W2.heap[w.heap.size + 1]? = some (.loop (rec .ready none)) ∧ Q .normal { a with defers := { target := .collected w.heap.size, args := #[] } :: a.defers } (W2.putObj (w.heap.size + 1) (.loop (rec .exhausted none)))) ∨
         (W2.heap[w.heap.size + 1]? = some (.loop (rec .done (some .ret))) ∧ Code.ret.wp P Q { a with defers := { target := .collected w.heap.size, args := #[] } :: a.defers } (W2.putObj (w.heap.size + 1) (.loop (rec .exhausted (some .ret))))))) :
    (Code.rangeFunc g ps assign body).wp P Q a w := by
  refine (wpIn_wide (n := n)).1 ?_
  refine wpIn_rangeFunc ?_
  intro fn hfn
  obtain ⟨rec, hrec⟩ : ∃ rec : LoopState → Option Code → Loop, rec = fun st pe => { state := st, pending := pe, fn, tmps := a.tmps, params := ps, assign, body, defers := w.heap.size } := ⟨_, rfl⟩
  obtain ⟨W1, hW1⟩ : ∃ W1, W1 = (w.alloc (.deferred (some []))).alloc (.loop (rec .ready none)) := ⟨_, rfl⟩
  refine ⟨w.heap.size + 1, [{ target := .collected w.heap.size, args := #[] }], W1, { target := .fn (.func gf) lb, args := #[.func (.yield (w.heap.size + 1)) #[] #[]] }, W1, gf,
    #[.func (.yield (w.heap.size + 1)) #[] #[]] ++ lb, W1, ?_, ?_, ?_, ?_, fun _ => h1, ?_⟩
  · rw [hW1, hrec]; exact run_enterLoop_outer _ _ _ _ _
  · simp only [resolve, hg]
    simp [go_sem]
  · intro f' _; trivial
  · simp [invoke, go_sem, eg]
  · refine (h fn rec W1 hrec hW1).mono ?_
    rintro e W2 ⟨⟨v, rfl⟩, ⟨hl, hQ⟩ | ⟨hl, hQ⟩⟩
    · have := run_endLoop (P := P) hl (by rw [hrec]; simp)
      have e2 : ({ rec .ready none with state := .exhausted } : Loop) = rec .exhausted none := by rw [hrec]
      rw [e2] at this
      refine ⟨none, _, ?_, hQ⟩
      rw [this, hrec]
    · have := run_endLoop (P := P) hl (by rw [hrec]; simp)
      have e2 : ({ rec .done (some .ret) with state := .exhausted } : Loop) = rec .exhausted (some .ret) := by rw [hrec]
      rw [e2] at this
      refine ⟨some .ret, _, ?_, wpIn_wide.2 hQ⟩
      rw [this, hrec]

theorem calls_of_wp_marks {P : Program} {f : FuncId} {fn : Func} {c : Code} {args : Array Value} {w : World} {R : Ending → World → Prop} (n : Nat) (hf : P.funcs[f]? = some fn) (hb : fn.body = some c)
    (h : c.wp P (bodyPostM Fence.wide n P fn R) { tmps := args ++ Array.replicate (fn.ntmps - args.size) undef, defers := [] } w) : Calls P f args w R :=
  (callsIn_wide (n := n)).1 (callsIn_of_wp_marks hf hb trivial (wpIn_wide.2 h) rfl)

/-- Nothing but on. -/
def Onward (Q : Exit → Act → World → Prop) : Exit → Act → World → Prop
  | .normal, a, w => Q .normal a w
  | _, _, _ => False
/-- A piece of code whose walk only goes on: what stands behind it need not say what a panic leaves. -/
theorem wp_onward {P : Program} {c : Code} {Q : Exit → Act → World → Prop} {a : Act} {w : World} (h : c.wp P (Onward Q) a w) : c.wp P Q a w := by
  refine (wpIn_wide (n := 0)).1 (wpIn_mono ((wpIn_wide (n := 0)).2 h) ?_)
  intro e a w hh
  cases e with
  | normal => exact hh
  | _ => exact hh.elim
end Go.Proofs.Ytijkkkiejdaljaa
