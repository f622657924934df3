/- What stands while a statement goes on: a net and rows of numbers; regions whose calls come up in whatever order; no condition. -/
import Derived.Test.YtmdjgkclbjbdiaaNtCopied
import Derived.Test.YtmdjgkclbjbdiaaNetSums
namespace Go.Proofs.Ytmdjgkclbjbdiaa
open Go.RowKit

structure NQ (w : World) (c : Nat) (n : Int) (v : Value) (es : List Ed) (fls : List (Value × List Int)) (W : World) : Prop where
  under : Below w.heap.size w W
  net : Cel W c [.int .i64 n, v] 24
  es : Es W v es
  fl : ∀ p ∈ fls, Fs W p.1 p.2
section
variable {w W W' : World} {c : Nat} {n : Int} {v : Value} {es : List Ed} {fls : List (Value × List Int)}
theorem NQ.go (h : NQ w c n v es fls W) (hb : Below W.heap.size W W') : NQ w c n v es fls W' :=
  ⟨h.under.trans (hb.mono h.under.size), h.net.below hb h.net.lt, h.es.below hb, fun p hp => (h.fl p hp).below hb⟩
theorem NQ.add (h : NQ w c n v es fls W) {x : Value} {l : List Int} (hx : Fs W x l) : NQ w c n v es ((x, l) :: fls) W :=
  ⟨h.under, h.net, h.es, fun p hp => by
    rcases List.mem_cons.1 hp with rfl | hp
    · exact hx
    · exact h.fl p hp⟩
theorem NQ.box {w : World} (n : Int) {v : Value} {es : List Ed} (he : Es w v es) {fls : List (Value × List Int)} (hf : ∀ p ∈ fls, Fs w p.1 p.2) : NQ w w.heap.size n v es fls (w.alloc (.cells #[.int .i64 n, v] 24)) :=
  have hb : Below w.heap.size w (w.alloc (.cells #[.int .i64 n, v] 24)) := (Below.refl _ _).alloc (Nat.le_refl _) _
  ⟨hb, Cel.new w _ _, he.below hb, fun p hp => (hf p hp).below hb⟩
end

section
variable {P : Program} {ops : Array Oper} {Q : Exit → Act → World → Prop} {md : Region.Mode} {S : World → Prop} {t : Nat}
/-- Where all orders come to one frame: what stands behind it is walked once. -/
theorem till_to {n : Nat} {listed : Array Bool} {a : Act} {w : World} (F : Act) (h1 : ∀ W, S W → Q .normal F W) (h2 : (∀ W, S W → Q .normal F W) → AnyTill P md ops Q S t n listed a w) : AnyTill P md ops Q S t n listed a w := h2 h1
/-- Likewise up to a place within the region. -/
theorem till_at {n : Nat} {listed : Array Bool} {a : Act} {w : World} (k : Nat) (L : Array Bool) (F : Act) (h1 : ∀ W, S W → AnyTill P md ops Q S t k L F W) (h2 : (∀ W, S W → AnyTill P md ops Q S t k L F W) → AnyTill P md ops Q S t n listed a w) : AnyTill P md ops Q S t n listed a w := h2 h1
/-- Two calls are ready, each answers the same wherever S holds: either may come up first. -/
theorem pair_till (i j : Nat) {oi oj : Oper} {vi vj : Value} {n : Nat} {listed : Array Bool} {a : Act} {w : World} (hr : Region.ready md ops listed = [i, j]) (hr1 : Region.ready md ops (listed.setIfInBounds i true) = [j]) (hr2 : Region.ready md ops (listed.setIfInBounds j true) = [i])
    (hi : ops[i]? = some oi) (hj : ops[j]? = some oj) (hS : S w)
    (wi : Region.wanted oi (yielded ops a.tmps) = true) (wj : Region.wanted oj (yielded ops a.tmps) = true) (wi2 : Region.wanted oi (yielded ops (a.put oj.dst vj).tmps) = true) (wj2 : Region.wanted oj (yielded ops (a.put oi.dst vi).tmps) = true)
    (hcomm : ((a.put oj.dst vj).put oi.dst vi) = ((a.put oi.dst vi).put oj.dst vj))
    (c1 : ∀ (K : Act → World → Prop) W, S W → (∀ W', S W' → K (a.put oi.dst vi) W') → Oper.wp P oi a W K Q) (c2 : ∀ (K : Act → World → Prop) W, S W → (∀ W', S W' → K ((a.put oi.dst vi).put oj.dst vj) W') → Oper.wp P oj (a.put oi.dst vi) W K Q)
    (c3 : ∀ (K : Act → World → Prop) W, S W → (∀ W', S W' → K (a.put oj.dst vj) W') → Oper.wp P oj a W K Q) (c4 : ∀ (K : Act → World → Prop) W, S W → (∀ W', S W' → K ((a.put oj.dst vj).put oi.dst vi) W') → Oper.wp P oi (a.put oj.dst vj) W K Q)
    (h : ∀ W, S W → AnyTill P md ops Q S t n ((listed.setIfInBounds i true).setIfInBounds j true) ((a.put oi.dst vi).put oj.dst vj) W) : AnyTill P md ops Q S t (n + 2) listed a w := by
  rcases Decidable.em (i = j) with hij | hij
  · subst hij
    have := congrArg List.length hr1
    exfalso
    have hm : i ∈ Region.ready md ops (listed.setIfInBounds i true) := by rw [hr1]; simp
    have h1 := (mem_ready.1 hm).1
    have hm2 : i ∈ Region.ready md ops listed := by rw [hr]; simp
    have h2 := (mem_ready.1 hm2).1
    by_cases hl : i < listed.size
    · simp [Array.getD_eq_getD_getElem?, hl] at h1
    · simp [Array.getD_eq_getD_getElem?, hl] at h2
  · refine two_till i j hr hi hj (fun K hK => ?_) (fun K hK => ?_)
    · rw [wi, if_pos rfl]
      refine c1 K w hS fun W hW => hK.out _ _ (fun _ => hW) ?_
      refine next_till j hr1 hj (fun K2 hK2 => ?_)
      rw [wj2, if_pos rfl]
      exact c2 K2 W hW fun W' hW' => hK2.out _ _ (fun _ => hW') (h W' hW')
    · rw [wj, if_pos rfl]
      refine c3 K w hS fun W hW => hK.out _ _ (fun _ => hW) ?_
      refine next_till i hr2 hi (fun K2 hK2 => ?_)
      rw [wi2, if_pos rfl]
      refine c4 K2 W hW fun W' hW' => hK2.out _ _ (fun _ => hW') ?_
      rw [Array.setIfInBounds_comm _ _ (fun e => hij e.symm), hcomm]
      exact h W' hW'
/-- Three are ready. -/
theorem three_till (i j k : Nat) {oi oj ok : Oper} {n : Nat} {listed : Array Bool} {a : Act} {w : World} (hr : Region.ready md ops listed = [i, j, k]) (hi : ops[i]? = some oi) (hj : ops[j]? = some oj) (hk : ops[k]? = some ok)
    (h1 : ∀ K : Act → World → Prop, Shut (∀ a w, (i ≠ t → S w) → AnyTill P md ops Q S t n (listed.setIfInBounds i true) a w → K a w) → if Region.wanted oi (yielded ops a.tmps) = true then Oper.wp P oi a w K Q else K (a.put oi.dst undef) w)
    (h2 : ∀ K : Act → World → Prop, Shut (∀ a w, (j ≠ t → S w) → AnyTill P md ops Q S t n (listed.setIfInBounds j true) a w → K a w) → if Region.wanted oj (yielded ops a.tmps) = true then Oper.wp P oj a w K Q else K (a.put oj.dst undef) w)
    (h3 : ∀ K : Act → World → Prop, Shut (∀ a w, (k ≠ t → S w) → AnyTill P md ops Q S t n (listed.setIfInBounds k true) a w → K a w) → if Region.wanted ok (yielded ops a.tmps) = true then Oper.wp P ok a w K Q else K (a.put ok.dst undef) w) :
    AnyTill P md ops Q S t (n + 1) listed a w := by
  refine ⟨fun h0 => (by rw [hr] at h0; cases h0), fun x hx => ?_⟩
  rw [hr] at hx
  rcases List.mem_cons.1 hx with rfl | hx
  · exact wpOp_step hi (fun K hK => h1 K (fun a w hS hW => hK a w ⟨hS, hW⟩))
  rcases List.mem_cons.1 hx with rfl | hx
  · exact wpOp_step hj (fun K hK => h2 K (fun a w hS hW => hK a w ⟨hS, hW⟩))
  · obtain rfl := List.mem_singleton.1 hx
    exact wpOp_step hk (fun K hK => h3 K (fun a w hS hW => hK a w ⟨hS, hW⟩))
/-- A call that is ready alone, of a known answer. -/
theorem one_till (i : Nat) {oi : Oper} {vi : Value} {n : Nat} {listed : Array Bool} {a : Act} {w : World} (hr : Region.ready md ops listed = [i]) (hi : ops[i]? = some oi) (_ : i ≠ t) (hS : S w) (wi : Region.wanted oi (yielded ops a.tmps) = true)
    (c1 : ∀ (K : Act → World → Prop) W, S W → (∀ W', S W' → K (a.put oi.dst vi) W') → Oper.wp P oi a W K Q)
    (h : ∀ W, S W → AnyTill P md ops Q S t n (listed.setIfInBounds i true) (a.put oi.dst vi) W) : AnyTill P md ops Q S t (n + 1) listed a w := by
  refine next_till i hr hi (fun K hK => ?_)
  rw [wi, if_pos rfl]
  exact c1 K w hS fun W hW => hK.out _ _ (fun _ => hW) (h W hW)
/-- A call's operation, by its contract. -/
theorem call_op {o : Oper} {a : Act} {W : World} {K : Act → World → Prop} {f : FuncId} {args : Array Value} {v : Value} {S : World → Prop} (he : (execOp a.eval o).run P W = .ok (.enter f args) W) (hc : Calls P f args W fun e w' => e = .returned v ∧ S w') (hK : ∀ W', S W' → K (a.put o.dst v) W') : Oper.wp P o a W K Q := by
  unfold Oper.wp
  rw [he]
  refine (hc.mono ?_ : Calls P f args W _)
  rintro e w' ⟨rfl, hw⟩
  exact hK w' hw
end
end Go.Proofs.Ytmdjgkclbjbdiaa
