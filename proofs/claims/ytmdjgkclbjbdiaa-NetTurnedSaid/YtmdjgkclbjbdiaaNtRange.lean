/- A range over one of the functions that go through a net's edges: what holds of the rounds behind each other; no condition. -/
import Derived.Test.YtmdjgkclbjbdiaaNtLoads
import Derived.Test.YtmdjgkclbjbdiaaNtWide
namespace Go.Proofs.Ytmdjgkclbjbdiaa
open Go.RowKit

/-- One round whose assignments make memory. -/
theorem yield_new {n l D fn : Nat} {P : Program} {tmps : Array Value} {ps : Array Tmp} {assign body : Code} {W W₁ : World} {args : Array Value} {R Rx : World → Prop} {rec : LoopState → Option Code → Loop}
    (hrec : rec = fun st pe => { state := st, pending := pe, fn, tmps := tmps, params := ps, assign, body, defers := D })
    (hl : W.heap[l]? = some (.loop (rec .ready none))) (hl1 : W₁.heap[l]? = some (.loop (rec .ready none))) (hs : args.size = ps.size) {a₁ : Act}
    (ha : ∀ K : Act → World → Prop, K a₁ W₁ → assign.wpIn (Fence.wide.inRound l) n P (Exit.then K (fun _ _ _ => False)) { tmps := (ps.zip args).foldl (fun t (p, v) => t.setIfInBounds p v) tmps, defers := [] } W)
    (hb : body.wpIn (Fence.wide.inRound l) n P (NGoesOr (fun W' => W'.heap[l]? = some (.loop (rec .busy none)) ∧ R (W'.putObj l (.loop (rec .ready none)))) (fun W' => W'.heap[l]? = some (.loop (rec .busy none)) ∧ Rx (W'.putObj l (.loop (rec .done (some .ret))))))
      a₁ (W₁.putObj l (.loop (rec .busy none)))) :
    YieldAt Fence.wide n P l args W fun e W' => (e = .returned (.bool true) ∧ R W') ∨ (e = .returned (.bool false) ∧ Rx W') := by
  have hy := run_yield (P := P) (args := args) hl (by rw [hrec]; exact hs)
  rw [hrec] at hy
  refine ⟨fn, _, assign, body, hy, roundIn_of_wpIn trivial (ha _ ⟨_, run_beginRound hl1 (by rw [hrec]), ?_⟩)⟩
  have e1 : ({ rec .ready none with state := .busy } : Loop) = rec .busy none := by rw [hrec]
  rw [e1]
  refine wpIn_mono hb ?_
  rintro e a3 W3 hp
  cases e with
  | normal =>
    obtain ⟨hl3, hR⟩ := hp
    have := run_endRound (P := P) none hl3
    have e2 : ({ rec .busy none with state := if (none : Option Code).isNone then .ready else .done, pending := none } : Loop) = rec .ready none := by rw [hrec]; rfl
    rw [e2] at this
    exact ⟨_, _, this, .inl ⟨rfl, hR⟩⟩
  | ret =>
    obtain ⟨hl3, hR⟩ := hp
    have := run_endRound (P := P) (some .ret) hl3
    have e2 : ({ rec .busy none with state := if (some Code.ret).isNone then .ready else .done, pending := some .ret } : Loop) = rec .done (some .ret) := by rw [hrec]; rfl
    rw [e2] at this
    exact ⟨_, _, this, .inr ⟨rfl, hR⟩⟩
  | exit id => exact hp.elim
  | goto t => exact hp.elim
  | panic ch => exact hp.elim
  | outgrown => exact hp.elim

theorem only_put (W : World) {l : Nat} (_ : l < W.heap.size) (o : Obj) {S : Nat → Prop} (hS : S l) : Only S W (W.putObj l o) :=
  (Only.refl S W).grown (grownBy_putObj' W l o) (fun k e => by cases e; exact .inl hS)

/-- A range over such a function: R says what holds behind k rounds, of blocks that lie ahead of the range; Rx what holds where a round left by a return. -/
theorem range_loads {g : Operand} {ps : Array Tmp} {assign body : Code} {Q : Exit → Act → World → Prop} {a : Act} {w w0 : World} {S : Nat → Prop} {gf : Nat} {lb : Array Value} {ls : Load}
    (hg : a.eval g = .func (.func gf) #[] lb) (eg : ∀ args w, (callFunc gf args).run Try.prog w = .ok (.enter gf args) w) (hL : Loads gf lb ls w0 S) (hps : ps.size = 2)
    (R : Nat → World → Prop) (Rx : World → Prop) (h0 : R 0 w) (hO : ∀ k W, R k W → Only S w0 W)
    (hst : ∀ k W W', R k W → Only (fun q => w.heap.size ≤ q) W W' → R k W') (hstx : ∀ W W', Rx W → Only (fun q => w.heap.size ≤ q) W W' → Rx W')
    (hround : ∀ k p W, ls[k]? = some p → R k W → w.heap.size + 2 ≤ W.heap.size → ∃ a₁ W₁, Below W.heap.size W W₁ ∧
      (∀ K : Act → World → Prop, K a₁ W₁ → assign.wpIn (Fence.wide.inRound (w.heap.size + 1)) 10 Try.prog (Exit.then K (fun _ _ _ => False)) { tmps := (ps.zip #[edV p.1, .int .i64 p.2]).foldl (fun t (p, v) => t.setIfInBounds p v) a.tmps, defers := [] } W) ∧
      ∀ W2, Only (fun q => q = w.heap.size + 1) W₁ W2 → R k W2 → body.wpIn (Fence.wide.inRound (w.heap.size + 1)) 10 Try.prog (NGoesOr (fun W' => Only (fun q => q ≠ w.heap.size ∧ q ≠ w.heap.size + 1) W2 W' ∧ R (k + 1) W') (fun W' => Only (fun q => q ≠ w.heap.size ∧ q ≠ w.heap.size + 1) W2 W' ∧ Rx W')) a₁ W2)
    (hend : ∀ W, R ls.length W → W.heap[w.heap.size]? = some (.deferred (some [])) → Q .normal { a with defers := { target := .collected w.heap.size, args := #[] } :: a.defers } W)
    (hret : ∀ W, Rx W → W.heap[w.heap.size]? = some (.deferred (some [])) → Code.ret.wp Try.prog Q { a with defers := { target := .collected w.heap.size, args := #[] } :: a.defers } W) :
    (Code.rangeFunc g ps assign body).wp Try.prog Q a w := by
  refine nrange_two (n := 12) (by decide) hg eg ?_
  intro fn rec W1 hrec hW1
  have hd1 : W1.heap[w.heap.size]? = some (.deferred (some [])) := by rw [hW1]; exact (Below.heap_alloc _ _ _ (by simp)).trans (World.alloc_heap_new w _)
  have hl1 : W1.heap[w.heap.size + 1]? = some (.loop (rec .ready none)) := by
    have := World.alloc_heap_new (w.alloc (.deferred (some []))) (.loop (rec .ready none))
    rw [World.size_alloc] at this
    rw [hW1]
    exact this
  have hb1 : Below w.heap.size w W1 := by rw [hW1]; exact ((Below.refl _ _).alloc (Nat.le_refl _) _).alloc (by simp) _
  have hsz : ∀ W : World, (W.heap[w.heap.size + 1]? = some (.loop (rec .ready none)) ∨ W.heap[w.heap.size + 1]? = some (.loop (rec .busy none))) → w.heap.size + 2 ≤ W.heap.size := by
    rintro W (h | h) <;> · have := (Array.getElem?_eq_some_iff.1 h).1; omega
  have key := hL 11 (w.heap.size + 1)
    (fun k W => R k W ∧ W.heap[w.heap.size]? = some (.deferred (some [])) ∧ W.heap[w.heap.size + 1]? = some (.loop (rec .ready none)))
    (fun W => Rx W ∧ W.heap[w.heap.size]? = some (.deferred (some [])) ∧ W.heap[w.heap.size + 1]? = some (.loop (rec .done (some .ret)))) (by decide) (fun k W h => hO k W h.1) ?hJ ?hY W1 ⟨hst 0 _ _ h0 (Only.of_below hb1 _), hd1, hl1⟩
  case hJ =>
    rintro k W W' ⟨h1, h2, h3⟩ hb
    have := hsz W (.inl h3)
    exact ⟨hst k _ _ h1 (Only.of_below hb _), (hb.block _ (by omega)).trans h2, (hb.block _ (by omega)).trans h3⟩
  case hY =>
    rintro k p W ⟨h1, h2, h3⟩ hp
    have hz := hsz W (.inl h3)
    obtain ⟨a₁, W₁, hb, ha, hbody⟩ := hround k p W hp h1 hz
    have h3' : W₁.heap[w.heap.size + 1]? = some (.loop (rec .ready none)) := (hb.block _ (by omega)).trans h3
    have h2' : W₁.heap[w.heap.size]? = some (.deferred (some [])) := (hb.block _ (by omega)).trans h2
    have hz1 := hsz W₁ (.inl h3')
    have hlt : w.heap.size + 1 < W₁.heap.size := by omega
    have hR1 := hst k _ _ h1 (Only.of_below hb _)
    have hW2 := hbody (W₁.putObj (w.heap.size + 1) (.loop (rec .busy none))) (only_put W₁ hlt _ rfl) (hst k _ _ hR1 (only_put W₁ hlt _ (by omega)))
    refine yield_new hrec h3 h3' (by rw [hps]; rfl) ha (wpIn_mono hW2 ?_)
    have d2 : (W₁.putObj (w.heap.size + 1) (.loop (rec .busy none))).heap[w.heap.size]? = some (.deferred (some [])) := (World.putObj_heap_other (by omega)).trans h2'
    have l2 : (W₁.putObj (w.heap.size + 1) (.loop (rec .busy none))).heap[w.heap.size + 1]? = some (.loop (rec .busy none)) := World.putObj_heap_same hlt
    rintro e a3 W3 hp3
    cases e with
    | normal =>
      obtain ⟨ho, hR⟩ := hp3
      have d3 := (ho.block _ (Array.getElem?_eq_some_iff.1 d2).1 (by simp)).trans d2
      have l3 := (ho.block _ (Array.getElem?_eq_some_iff.1 l2).1 (by simp)).trans l2
      have hlt3 := (Array.getElem?_eq_some_iff.1 l3).1
      exact ⟨l3, hst _ _ _ hR (only_put W3 hlt3 _ (by omega)), (World.putObj_heap_other (by omega)).trans d3, World.putObj_heap_same hlt3⟩
    | ret =>
      obtain ⟨ho, hR⟩ := hp3
      have d3 := (ho.block _ (Array.getElem?_eq_some_iff.1 d2).1 (by simp)).trans d2
      have l3 := (ho.block _ (Array.getElem?_eq_some_iff.1 l2).1 (by simp)).trans l2
      have hlt3 := (Array.getElem?_eq_some_iff.1 l3).1
      exact ⟨l3, hstx _ _ hR (only_put W3 hlt3 _ (by omega)), (World.putObj_heap_other (by omega)).trans d3, World.putObj_heap_same hlt3⟩
    | exit id => exact hp3.elim
    | goto t => exact hp3.elim
    | panic ch => exact hp3.elim
    | outgrown => exact hp3.elim
  refine key.mono ?_
  rintro e W2 ⟨⟨r, rfl⟩, ⟨hR, hd, hl⟩ | ⟨hR, hd, hl⟩⟩
  · refine ⟨⟨_, rfl⟩, .inl ⟨hl, ?_⟩⟩
    have hlt := (Array.getElem?_eq_some_iff.1 hl).1
    exact hend _ (hst _ _ _ hR (only_put W2 hlt _ (by omega))) ((World.putObj_heap_other (by omega)).trans hd)
  · refine ⟨⟨_, rfl⟩, .inr ⟨hl, ?_⟩⟩
    have hlt := (Array.getElem?_eq_some_iff.1 hl).1
    exact hret _ (hstx _ _ hR (only_put W2 hlt _ (by omega))) ((World.putObj_heap_other (by omega)).trans hd)
end Go.Proofs.Ytmdjgkclbjbdiaa
