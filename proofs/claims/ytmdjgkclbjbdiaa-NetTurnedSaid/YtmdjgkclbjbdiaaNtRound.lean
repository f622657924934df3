/- A range over a function's value whose rounds go on, or leave by a return; a call whose frame bears marks, walked as any other; a region that draws its order and calls a yield by its operation number t: what only reads is taken first; no condition. -/
import Derived.Test.YtmdjgkclbjbdiaaFoot
import Derived.RangeFuncNested
import Derived.RangeFuncBound
import Derived.RangeFuncCalls
import Derived.RangeFuncLeaves
import Derived.OwnWalkIn
import Derived.TacticsInMore
import Derived.LoopNIn
import Derived.LoopIn
import Derived.Test.YtmdjgkclbjbdiaaHeldLast
namespace Go.Proofs.Ytmdjgkclbjbdiaa
open Go.RowKit

/-- The body goes on, or returns. -/
def NGoesOr (R Rx : World → Prop) : Exit → Act → World → Prop
  | .normal, _, w => R w
  | .ret, _, w => Rx w
  | _, _, _ => False
theorem NGoesOr.let {R Rx : World → Prop} : ¬ LetsOut (NGoesOr R Rx) := by
  rintro ⟨a, w, h⟩
  exact h

/-- One round, out of a walk of the assignments and one of the body. -/
theorem nyield_two {n l D fn : Nat} {P : Program} {tmps : Array Value} {ps : Array Tmp} {assign body : Code} {W : World} {args : Array Value} {R Rx : World → Prop} {rec : LoopState → Option Code → Loop}
    (hrec : rec = fun st pe => { state := st, pending := pe, fn, tmps := tmps, params := ps, assign, body, defers := D })
    (hl : W.heap[l]? = some (.loop (rec .ready none))) (hs : args.size = ps.size) {a₁ : Act}
    (ha : ∀ K : Act → World → Prop, K a₁ W → assign.wpIn (Fence.wide.inRound l) n P (Exit.then K (fun _ _ _ => False)) { tmps := (ps.zip args).foldl (fun t (p, v) => t.setIfInBounds p v) tmps, defers := [] } W)
    (hb : body.wpIn (Fence.wide.inRound l) n P (NGoesOr (fun W' => W'.heap[l]? = some (.loop (rec .busy none)) ∧ R (W'.putObj l (.loop (rec .ready none)))) (fun W' => W'.heap[l]? = some (.loop (rec .busy none)) ∧ Rx (W'.putObj l (.loop (rec .done (some .ret))))))
      a₁ (W.putObj l (.loop (rec .busy none)))) :
    YieldAt Fence.wide n P l args W fun e W' => (e = .returned (.bool true) ∧ R W') ∨ (e = .returned (.bool false) ∧ Rx W') := by
  have hy := run_yield (P := P) (args := args) hl (by rw [hrec]; exact hs)
  rw [hrec] at hy
  refine ⟨fn, _, assign, body, hy, roundIn_of_wpIn trivial (ha _ ⟨_, run_beginRound hl (by rw [hrec]), ?_⟩)⟩
  have e1 : ({ rec .ready none with state := .busy } : Loop) = rec .busy none := by rw [hrec]
  rw [e1]
  refine wpIn_mono hb ?_
  rintro e a3 W3 hp
  cases e with
  | normal =>
    obtain ⟨hl3, hR⟩ := hp
    have := run_endRound (P := P) none hl3
    have e2 : ({ rec .busy none with state := if (none : Option Code).isNone then .ready else .done, pending := none } : Loop) = rec .ready none := by rw [hrec]; rfl
    rw [e2] at this
    exact ⟨_, _, this, .inl ⟨rfl, hR⟩⟩
  | ret =>
    obtain ⟨hl3, hR⟩ := hp
    have := run_endRound (P := P) (some .ret) hl3
    have e2 : ({ rec .busy none with state := if (some Code.ret).isNone then .ready else .done, pending := some .ret } : Loop) = rec .done (some .ret) := by rw [hrec]; rfl
    rw [e2] at this
    exact ⟨_, _, this, .inr ⟨rfl, hR⟩⟩
  | exit id => exact hp.elim
  | goto t => exact hp.elim
  | panic ch => exact hp.elim
  | outgrown => exact hp.elim

/-- The statement. -/
theorem nrange_two {n : Nat} {P : Program} {g : Operand} {ps : Array Tmp} {assign body : Code} {Q : Exit → Act → World → Prop} {a : Act} {w : World} (h1 : 1 ≤ n) {gf : Nat} {lb : Array Value} (hg : a.eval g = .func (.func gf) #[] lb)
    (eg : ∀ args w, (callFunc gf args).run P w = .ok (.enter gf args) w)
    (h : ∀ (fn : Nat) (rec : LoopState → Option Code → Loop) (W1 : World), rec = (fun st pe => { state := st, pending := pe, fn, tmps := a.tmps, params := ps, assign, body, defers := w.heap.size }) →
      W1 = (w.alloc (.deferred (some []))).alloc (.loop (rec .ready none)) →
      CallsIn Fence.wide (n - 1) P gf (#[.func (.yield (w.heap.size + 1)) #[] #[]] ++ lb) W1 fun e W2 => (∃ v, e = .returned v) ∧
        ((W2.heap[w.heap.size + 1]? = some (.loop (rec .ready none)) ∧ Q .normal { a with defers := { target := .collected w.heap.size, args := #[] } :: a.defers } (W2.putObj (w.heap.size + 1) (.loop (rec .exhausted none)))) ∨
         (W2.heap[w.heap.size + 1]? = some (.loop (rec .done (some .ret))) ∧ Code.ret.wp P Q { a with defers := { target := .collected w.heap.size, args := #[] } :: a.defers } (W2.putObj (w.heap.size + 1) (.loop (rec .exhausted (some .ret))))))) :
    (Code.rangeFunc g ps assign body).wp P Q a w := by
  refine (wpIn_wide (n := n)).1 ?_
  refine wpIn_rangeFunc ?_
  intro fn hfn
  obtain ⟨rec, hrec⟩ : ∃ rec : LoopState → Option Code → Loop, rec = fun st pe => { state := st, pending := pe, fn, tmps := a.tmps, params := ps, assign, body, defers := w.heap.size } := ⟨_, rfl⟩
  obtain ⟨W1, hW1⟩ : ∃ W1, W1 = (w.alloc (.deferred (some []))).alloc (.loop (rec .ready none)) := ⟨_, rfl⟩
  refine ⟨w.heap.size + 1, [{ target := .collected w.heap.size, args := #[] }], W1, { target := .fn (.func gf) lb, args := #[.func (.yield (w.heap.size + 1)) #[] #[]] }, W1, gf,
    #[.func (.yield (w.heap.size + 1)) #[] #[]] ++ lb, W1, ?_, ?_, ?_, ?_, fun _ => h1, ?_⟩
  · rw [hW1, hrec]; exact run_enterLoop_outer _ _ _ _ _
  · simp only [resolve, hg]
    simp [go_sem]
  · intro f' _; trivial
  · simp [invoke, go_sem, eg]
  · refine (h fn rec W1 hrec hW1).mono ?_
    rintro e W2 ⟨⟨v, rfl⟩, ⟨hl, hQ⟩ | ⟨hl, hQ⟩⟩
    · have := run_endLoop (P := P) hl (by rw [hrec]; simp)
      have e2 : ({ rec .ready none with state := .exhausted } : Loop) = rec .exhausted none := by rw [hrec]
      rw [e2] at this
      refine ⟨none, _, ?_, hQ⟩
      rw [this, hrec]
    · have := run_endLoop (P := P) hl (by rw [hrec]; simp)
      have e2 : ({ rec .done (some .ret) with state := .exhausted } : Loop) = rec .exhausted (some .ret) := by rw [hrec]
      rw [e2] at this
      refine ⟨some .ret, _, ?_, wpIn_wide.2 hQ⟩
      rw [this, hrec]

theorem ncalls_of_wp_marks {P : Program} {f : FuncId} {fn : Func} {c : Code} {args : Array Value} {w : World} {R : Ending → World → Prop} (n : Nat) (hf : P.funcs[f]? = some fn) (hb : fn.body = some c)
    (h : c.wp P (bodyPostM Fence.wide n P fn R) { tmps := args ++ Array.replicate (fn.ntmps - args.size) undef, defers := [] } w) : Calls P f args w R :=
  (callsIn_wide (n := n)).1 (callsIn_of_wp_marks hf hb trivial (wpIn_wide.2 h) rfl)

/-- Nothing but on. -/
def NOnward (Q : Exit → Act → World → Prop) : Exit → Act → World → Prop
  | .normal, a, w => Q .normal a w
  | _, _, _ => False
/-- A piece of code whose walk only goes on: what stands behind it need not say what a panic leaves. -/
theorem nwp_onward {P : Program} {c : Code} {Q : Exit → Act → World → Prop} {a : Act} {w : World} (h : c.wp P (NOnward Q) a w) : c.wp P Q a w := by
  refine (wpIn_wide (n := 0)).1 (wpIn_mono ((wpIn_wide (n := 0)).2 h) ?_)
  intro e a w hh
  cases e with
  | normal => exact hh
  | _ => exact hh.elim

/-! ### a region outside of rounds, one of whose operations calls a yield -/
section
variable {P : Program} {ops : Array Oper} {Q : Exit → Act → World → Prop} {md : Region.Mode} {S : World → Prop} {t : Nat}

theorem oper_wide {n : Nat} {o : Oper} {a : Act} {w : World} {K : Act → World → Prop} (h : Oper.wp P o a w K Q) : o.wpIn Fence.wide n P a w K Q := by
  refine ⟨fun _ _ => trivial, ?_⟩
  unfold Oper.wp at h
  have e : o.semAt Fence.wide.round a.eval = execOp a.eval o := rfl
  rw [e]
  generalize (execOp a.eval o).run P w = r at h ⊢
  cases r with
  | ok x w' =>
    cases x
    case enter f args => exact ⟨fun hh => (by cases hh), callsIn_wide.2 (Calls.mono h (fun e w'' he => (by cases e <;> exact he)))⟩
    case row row args => exact ⟨fun hh => (by cases hh), rows_wide h⟩
    all_goals first | exact h | exact h.elim
  | halt x w' => cases x <;> first | exact h | exact h.elim

/-- Whatever order is picked; S holds behind each operation but number t, and t alone is walked within the fence. -/
def AnyX (m : Nat) (P : Program) (md : Region.Mode) (ops : Array Oper) (Q : Exit → Act → World → Prop) (S : World → Prop) (t : Nat) : Nat → Array Bool → Act → World → Prop
  | 0, listed, a, w => Region.ready md ops listed = [] ∧ Q .normal a w
  | n + 1, listed, a, w => (Region.ready md ops listed = [] → Q .normal a w) ∧
      ∀ i ∈ Region.ready md ops listed, (i ≠ t → wpOp P ops Q i (fun a' w' => (listed.getD t true = false → S w') ∧ AnyX m P md ops Q S t n (listed.setIfInBounds i true) a' w') a w) ∧
        (i = t → wpOpIn Fence.wide m P ops Q i (fun a' w' => AnyX m P md ops Q S t n (listed.setIfInBounds i true) a' w') a w)

theorem AnyX.any {m : Nat} (hlo : ¬ LetsOut Q) : ∀ (n : Nat) (listed : Array Bool) (a : Act) (w : World), AnyX m P md ops Q S t n listed a w → wpAnyIn Fence.wide m P md ops Q n listed a w
  | 0, _, _, _, h => h
  | n + 1, listed, a, w, h => by
    refine ⟨h.1, fun i hi => ?_⟩
    obtain ⟨h1, h2⟩ := h.2 i hi
    rcases Decidable.em (i = t) with hit | hit
    · exact wpOpIn_mono (fun a' w' hh => AnyX.any hlo n _ a' w' hh) (h2 hit)
    · have hop := h1 hit
      unfold wpOp at hop
      unfold wpOpIn
      split
      · rename_i ho
        simp only [ho] at hop
        exact AnyX.any hlo n _ a w hop.2
      · rename_i o ho
        simp only [ho] at hop
        split
        · rename_i hw
          simp only [hw, if_true] at hop
          rcases hop with hop | hop
          · exact oper_wide (Oper.wp_mono (fun a w hh => AnyX.any hlo n _ a w hh.2) hop)
          · exact absurd hop.2 hlo
        · rename_i hw
          simp only [hw] at hop
          exact ⟨fun _ _ => trivial, AnyX.any hlo n _ _ w hop.2⟩

theorem AnyX.first {m i : Nat} {oi : Oper} {v : Value} (hi : ops[i]? = some oi) (hwait : ∀ ot, ops[t]? = some ot → ∃ e ∈ ot.after, Region.binds md e = true ∧ e.on = i)
    (hsel : ∀ (j : Nat) (o : Oper) cs b, ops[j]? = some o → o.op ≠ .select cs b) (hQ : ∀ c a w, Q (.panic c) (a.put oi.dst v) w → Q (.panic c) a w) :
    ∀ (n : Nat) (listed : Array Bool) (a : Act) (w : World),
      (∀ j oj, ops[j]? = some oj → j ≠ i → listed.getD j true = false → (∀ e ∈ oj.after, Region.binds md e = true → e.on ≠ i) → oi.apart ops oj = true) →
      i ∈ Region.ready md ops listed → listed.getD t true = false → YieldsIf P ops S oi v a → S w → i ≠ t →
      AnyX m P md ops Q S t n (listed.setIfInBounds i true) (a.put oi.dst v) w → AnyX m P md ops Q S t (n + 1) listed a w := by
  intro n
  induction n with
  | zero =>
    intro listed a w _ hr _ hy hS hit H
    refine ⟨fun h => absurd hr (by rw [h]; simp), fun j hj => ?_⟩
    rcases Decidable.em (j = i) with rfl | hji
    · exact ⟨fun _ => hy.wpOp hi hS ⟨fun _ => hS, H⟩, fun e => absurd e hit⟩
    · exact absurd (ready_mono hj hji) (by rw [H.1]; simp)
  | succ n ih =>
    intro listed a w hfree hr ht hy hS hit H
    refine ⟨fun h => absurd hr (by rw [h]; simp), fun j hj => ?_⟩
    rcases Decidable.em (j = i) with rfl | hji
    · exact ⟨fun _ => hy.wpOp hi hS ⟨fun _ => hS, H⟩, fun e => absurd e hit⟩
    obtain ⟨hun, oj, hoj, _⟩ := mem_ready.1 hj
    have hno := ready_waits hr hj hoj
    have hjt : j ≠ t := by
      rintro rfl
      obtain ⟨e, he, hb, hon⟩ := hwait oj hoj
      exact hno e he hb hon
    have ht2 : (listed.setIfInBounds i true).getD t true = false := by rw [getD_set_ne true hit]; exact ht
    refine ⟨fun _ => ?_, fun e => absurd e hjt⟩
    have step := wpOp_putIf hoj (hfree j oj hoj hji hun hno) (fun cs b => hsel i oi cs b hi) (fun cs b => hsel j oj cs b hoj) hQ hy ((H.2 j (ready_mono hj hji)).1 hjt)
    refine wpOp_mono (fun a' w' ⟨hy', hS', hrest⟩ => ⟨fun _ => hS' ht2, ih _ a' w' (fun k ok hk hki hunk hnk => ?_) (ready_mono hr (fun e => hji e.symm)) (by rw [getD_set_ne true hjt]; exact ht) hy' (hS' ht2) hit ?_⟩) step
    · refine hfree k ok hk hki ?_ hnk
      rcases Decidable.em (j = k) with rfl | hjk
      · exact hun
      · rwa [getD_set_ne true hjk] at hunk
    · rw [Array.setIfInBounds_comm _ _ hji]
      exact hrest

theorem take_x {i : Nat} {oi : Oper} (d : Option Tmp) (v : Value) {m n : Nat} {listed : Array Bool} {a : Act} {w : World} (hi : ops[i]? = some oi) (hd : oi.dst = d) (hs : Region.noSelect ops = true) (hf : Region.free md ops listed i = true)
    (hr : (Region.ready md ops listed).contains i = true) (ht : listed.getD t true = false) (hwt : waitsB md ops t i = true) (hit : i ≠ t) (hQ : ∀ c a w, Q (.panic c) (a.put d v) w → Q (.panic c) a w)
    (hw : Region.wanted oi (yielded ops a.tmps) = true) (hy : ∀ w, S w → (execOp a.eval oi).run P w = .ok (.value v) w) (hS : S w)
    (h : AnyX m P md ops Q S t n (listed.setIfInBounds i true) (a.put d v) w) : AnyX m P md ops Q S t (n + 1) listed a w := by
  subst hd
  refine AnyX.first hi (fun ot hot => ?_) (Region.noSelect_spec hs) hQ n listed a w (Region.free_spec hi hf) (by simpa using hr) ht (.inl ⟨hw, hy⟩) hS hit h
  unfold waitsB at hwt
  rw [hot] at hwt
  obtain ⟨e, he, hb⟩ := Array.any_eq_true'.1 hwt
  simp only [Bool.and_eq_true, beq_iff_eq] at hb
  exact ⟨e, he, hb.1, hb.2⟩

/-- Number t comes up, walked within the fence. -/
theorem next_x_t {o : Oper} {m n : Nat} {listed : Array Bool} {a : Act} {w : World} (hr : Region.ready md ops listed = [t]) (ho : ops[t]? = some o) (hw : Region.wanted o (yielded ops a.tmps) = true)
    (h : o.wpIn Fence.wide m P a w (AnyX m P md ops Q S t n (listed.setIfInBounds t true)) Q) : AnyX m P md ops Q S t (n + 1) listed a w := by
  refine ⟨fun h0 => (by rw [hr] at h0; cases h0), fun j hj => ?_⟩
  rw [hr] at hj
  obtain rfl : j = t := by simpa using hj
  refine ⟨fun e => absurd rfl e, fun _ => ?_⟩
  unfold wpOpIn
  simp only [ho, hw, if_true]
  exact h
/-- Another one comes up. -/
theorem next_x (i : Nat) {o : Oper} {m n : Nat} {listed : Array Bool} {a : Act} {w : World} (hr : Region.ready md ops listed = [i]) (hit : i ≠ t) (ho : ops[i]? = some o)
    (h : ∀ K : Act → World → Prop, Shut (∀ a w, (listed.getD t true = false → S w) → AnyX m P md ops Q S t n (listed.setIfInBounds i true) a w → K a w) → if Region.wanted o (yielded ops a.tmps) = true then Oper.wp P o a w K Q else K (a.put o.dst undef) w) :
    AnyX m P md ops Q S t (n + 1) listed a w := by
  refine ⟨fun h0 => (by rw [hr] at h0; cases h0), fun j hj => ?_⟩
  rw [hr] at hj
  obtain rfl : j = i := by simpa using hj
  exact ⟨fun _ => wpOp_step ho (fun K hK => h K (fun a w hS hW => hK a w ⟨hS, hW⟩)), fun e => absurd e hit⟩
/-- Two are ready, neither of them number t. -/
theorem two_x (i j : Nat) {oi oj : Oper} {m n : Nat} {listed : Array Bool} {a : Act} {w : World} (hr : Region.ready md ops listed = [i, j]) (hit : i ≠ t) (hjt : j ≠ t) (hi : ops[i]? = some oi) (hj : ops[j]? = some oj)
    (h1 : ∀ K : Act → World → Prop, Shut (∀ a w, (listed.getD t true = false → S w) → AnyX m P md ops Q S t n (listed.setIfInBounds i true) a w → K a w) → if Region.wanted oi (yielded ops a.tmps) = true then Oper.wp P oi a w K Q else K (a.put oi.dst undef) w)
    (h2 : ∀ K : Act → World → Prop, Shut (∀ a w, (listed.getD t true = false → S w) → AnyX m P md ops Q S t n (listed.setIfInBounds j true) a w → K a w) → if Region.wanted oj (yielded ops a.tmps) = true then Oper.wp P oj a w K Q else K (a.put oj.dst undef) w) :
    AnyX m P md ops Q S t (n + 1) listed a w := by
  refine ⟨fun h0 => (by rw [hr] at h0; cases h0), fun x hx => ?_⟩
  rw [hr] at hx
  rcases List.mem_cons.1 hx with rfl | hx
  · exact ⟨fun _ => wpOp_step hi (fun K hK => h1 K (fun a w hS hW => hK a w ⟨hS, hW⟩)), fun e => absurd e hit⟩
  · obtain rfl := List.mem_singleton.1 hx
    exact ⟨fun _ => wpOp_step hj (fun K hK => h2 K (fun a w hS hW => hK a w ⟨hS, hW⟩)), fun e => absurd e hjt⟩
theorem done_x {m : Nat} {listed : Array Bool} {a : Act} {w : World} (hr : Region.ready md ops listed = []) (h : Q .normal a w) : ∀ n, AnyX m P md ops Q S t n listed a w
  | 0 => ⟨hr, h⟩
  | _ + 1 => ⟨fun _ => h, by rw [hr]; simp⟩
theorem region_x {m id : Nat} {a : Act} {w : World} (t : Nat) (S : World → Prop) (hm : P.follows .mixedOrders = true) (hlo : ¬ LetsOut Q) (hS : S w.drew)
    (h : S w.drew → AnyX m P .any ops Q S t ops.size (Array.replicate ops.size false) a w.drew) : (Code.region id ops true).wpIn Fence.wide m P Q a w :=
  wpIn_region_any hm (AnyX.any hlo _ _ _ _ (h hS))
end
end Go.Proofs.Ytmdjgkclbjbdiaa
