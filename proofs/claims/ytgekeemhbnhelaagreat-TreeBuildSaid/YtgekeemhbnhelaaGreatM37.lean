/- A list that a call's rounds lengthen, in a variable of the call, beside the loop's record: what it holds, step by step; no condition. · The walk of Scan: the pairs of a root in a span, rising; condition: the tree is whole, the power is on. -/
import Derived.Test.YtgekeemhbnhelaaGreatM34
import Derived.OwnWalkIn
import Derived.Test.YtgekeemhbnhelaaGreatM36
import Derived.Test.YtgekeemhbnhelaaGreatM32
namespace Go.Proofs.YtgekeemhbnhelaaGreat
open Go.RowKit

/-- A built-in append whose run is known, in a round's list of operations. -/
theorem round_append_run {F : Fence} {n : Nat} {P : Program} {w w' : World} {ops : Array Oper} {rest : List Oper} {o : Oper} {a : Act} {Q : Exit → Act → World → Prop} {v x v' : Value} (hg : o.guard = none) (sl xl : Operand) (ty : TypeId) (hop : o.op = .call { callee := .builtin .append, args := #[sl, xl], argTypes := #[ty, ty] })
    (hs : a.eval sl = v) (hx : a.eval xl = x) (hr : (Builtin.append_ #[ty, ty] o.type #[v, x]).run P w = .ok v' w') (h : wpListIn F n P ops Q rest (a.put o.dst v') w') : wpListIn F n P ops Q (o :: rest) a w := by
  refine wpListIn_plain hg fun K hK' => ?_
  unfold Oper.wpIn
  refine ⟨?_, ?_⟩
  · simp [Oper.about, hop, resolve, Target.leads, Sem.run_pure]
  · rw [Oper.semAt_plain F _ _ (by rw [hop]; intro c hc'; cases hc')]
    simp [execOp, hop, resolve, invoke, builtin, hs, hx, hr, Result.andThen]
    exact hK' _ _ h

/-- The call's own blocks: the results' variables, the list's variable, the place for deferred calls, the loop's record. -/
def Five (b q : Nat) : Prop := q = b ∨ q = b + 1 ∨ q = b + 2 ∨ q = b + 6 ∨ q = b + 7
section
variable {τ α : Type}
structure Lst (K : Kd τ α) (te ts : TypeId) (w : World) (S : Nat → Prop) (b : Nat) (r : Loop) (pre : List α) (W : World) (C F : Nat → Prop) (lv : Value) : Prop where
  cl : Cel W (b + 2) [lv] ts
  ro : Ro K te W (Su S F) lv pre
  cc : ∀ q, C q ↔ Five b q ∨ lv.ownBlock = some q
  cf : ∀ q, C q → F q
  nl : ∀ q, lv.ownBlock = some q → b + 8 ≤ q
  ll : W.heap[b + 7]? = some (.loop r)
  dd : W.heap[b + 6]? = some (.deferred (some []))
  c1 : Cel W b [.slice none 0 0] ts
  c2 : Cel W (b + 1) [.int .i64 0] 31
  bw : Below w.heap.size w W
  fl : ∀ q, F q → w.heap.size ≤ q ∧ q < W.heap.size

variable {K : Kd τ α} {te ts : TypeId} {w W W' : World} {S : Nat → Prop} {b : Nat} {r r' : Loop} {pre : List α} {C F F' : Nat → Prop} {lv v' : Value}
theorem Lst.five (h : Lst K te ts w S b r pre W C F lv) {q : Nat} (hq : Five b q) : C q := (h.cc q).2 (.inl hq)
theorem Lst.lt (h : Lst K te ts w S b r pre W C F lv) {q : Nat} (hq : Five b q) : q < W.heap.size := (h.fl q (h.cf q (h.five hq))).2
theorem Lst.eight (h : Lst K te ts w S b r pre W C F lv) : b + 8 ≤ W.heap.size := by
  have := (Array.getElem?_eq_some_iff.1 h.ll).1
  omega
theorem Lst.stay (h : Lst K te ts w S b r pre W C F lv) (hst : Step F W W' F') (hc : ∀ q, C q → W'.heap[q]? = W.heap[q]?) (hf : ∀ q, F q → F' q) (hl : ∀ q, F' q → q < W'.heap.size) : Lst K te ts w S b r pre W' C F' lv := by
  have h5 : ∀ q, Five b q → W'.heap[q]? = W.heap[q]? := fun q hq => hc q (h.five hq)
  exact { cl := h.cl.kept (h5 _ (by unfold Five; omega)), ro := h.ro.keep (fun g hg => hc g ((h.cc g).2 (.inr hg))) (Su.step hst S) (fun q hq => hq.imp id (hf q)), cc := h.cc, cf := fun q hq => hf q (h.cf q hq), nl := h.nl
          ll := (h5 _ (by unfold Five; omega)).trans h.ll, dd := (h5 _ (by unfold Five; omega)).trans h.dd
          c1 := h.c1.kept (h5 _ (by unfold Five; omega)), c2 := h.c2.kept (h5 _ (by unfold Five; omega))
          bw := h.bw.trans (hst.only.below h.bw.size fun q hq => (h.fl q hq).1), fl := fun q hq => ⟨(hst.more q hq).elim (fun h1 => (h.fl q h1).1) fun h1 => Nat.le_trans h.bw.size h1, hl q hq⟩ }
theorem Lst.holds : Holds w (fun (pre : List α) W C F => ∃ lv, Lst K te ts w S b r pre W C F lv) :=
  ⟨fun ⟨_, h⟩ => ⟨h.bw, h.cf, h.fl⟩, fun ⟨lv, h⟩ hst hc hf hl => ⟨lv, h.stay hst hc hf hl⟩⟩
theorem Lst.below (h : Lst K te ts w S b r pre W C F lv) (hb : Below W.heap.size W W') : Lst K te ts w S b r pre W' C F lv :=
  h.stay (Step.of_below hb F) (fun q hq => hb.block q (h.fl q (h.cf q hq)).2) (fun _ h => h) fun q hq => Nat.lt_of_lt_of_le (h.fl q hq).2 hb.size
theorem put_step {W : World} {L : Nat} {o : Obj} {C : Nat → Prop} (hC : C L) : Step C W (W.putObj L o) C :=
  ⟨⟨rfl, rfl, rfl, by simp [World.putObj], fun q _ hq => World.putObj_heap_other fun e => hq (e ▸ hC)⟩, fun _ h => .inl h⟩
theorem Lst.turn (h : Lst K te ts w S b r pre W C F lv) (r' : Loop) : Lst K te ts w S b r' pre (W.putObj (b + 7) (.loop r')) C F lv ∧ Step C W (W.putObj (b + 7) (.loop r')) C := by
  have hlt := (Array.getElem?_eq_some_iff.1 h.ll).1
  have hCL : C (b + 7) := h.five (by unfold Five; omega)
  have hk : ∀ q, q ≠ b + 7 → (W.putObj (b + 7) (.loop r')).heap[q]? = W.heap[q]? := fun q hq => World.putObj_heap_other hq
  have st : Step F W (W.putObj (b + 7) (.loop r')) F := put_step (h.cf _ hCL)
  refine ⟨{ cl := h.cl.kept (hk _ (by omega)), ro := h.ro.keep (fun g hg => hk g (by have := h.nl g hg; omega)) (Su.step st S) (fun _ h => h), cc := h.cc, cf := h.cf, nl := h.nl
            ll := World.putObj_heap_same hlt, dd := (hk _ (by omega)).trans h.dd
            c1 := h.c1.kept (hk _ (by omega)), c2 := h.c2.kept (hk _ (by omega))
            bw := h.bw.trans (st.only.below h.bw.size fun q hq => (h.fl q hq).1), fl := fun q hq => ⟨(h.fl q hq).1, Nat.lt_of_lt_of_le (h.fl q hq).2 st.size⟩ }, put_step hCL⟩
/-- The results are laid, the place for deferred calls is given up. -/
theorem Lst.done (hS : ∀ q, S q → q < w.heap.size) (h : Lst K te ts w S b r pre W C F lv) :
    Below w.heap.size w (((W.setCell ⟨b, 0, none⟩ lv).setCell ⟨b + 1, 0, none⟩ (.int .i64 0)).putObj (b + 6) (.deferred none)) ∧ Rd K (((W.setCell ⟨b, 0, none⟩ lv).setCell ⟨b + 1, 0, none⟩ (.int .i64 0)).putObj (b + 6) (.deferred none)) S lv pre ∧
    Cel (((W.setCell ⟨b, 0, none⟩ lv).setCell ⟨b + 1, 0, none⟩ (.int .i64 0)).putObj (b + 6) (.deferred none)) b [lv] ts ∧ Cel (((W.setCell ⟨b, 0, none⟩ lv).setCell ⟨b + 1, 0, none⟩ (.int .i64 0)).putObj (b + 6) (.deferred none)) (b + 1) [.int .i64 0] 31 ∧
    ((W.setCell ⟨b, 0, none⟩ lv).setCell ⟨b + 1, 0, none⟩ (.int .i64 0)).heap[b + 6]? = some (.deferred (some [])) := by
  have f0 : F b := h.cf _ (h.five (by unfold Five; omega))
  have f1 : F (b + 1) := h.cf _ (h.five (by unfold Five; omega))
  have f6 : F (b + 6) := h.cf _ (h.five (by unfold Five; omega))
  have st : Step F W (((W.setCell ⟨b, 0, none⟩ lv).setCell ⟨b + 1, 0, none⟩ (.int .i64 0)).putObj (b + 6) (.deferred none)) F := (((Step.refl F W).set (p := ⟨b, 0, none⟩) f0 lv).set (p := ⟨b + 1, 0, none⟩) f1 (.int .i64 0)).trans (put_step f6)
  have hk : ∀ q, q ≠ b → q ≠ b + 1 → ((W.setCell ⟨b, 0, none⟩ lv).setCell ⟨b + 1, 0, none⟩ (.int .i64 0)).heap[q]? = W.heap[q]? := fun q h1 h2 => (Below.heap_setCell _ ⟨b + 1, 0, none⟩ _ _ h2).trans (Below.heap_setCell _ ⟨b, 0, none⟩ _ _ h1)
  have hp : ∀ q, q ≠ b + 6 → (((W.setCell ⟨b, 0, none⟩ lv).setCell ⟨b + 1, 0, none⟩ (.int .i64 0)).putObj (b + 6) (.deferred none)).heap[q]? = ((W.setCell ⟨b, 0, none⟩ lv).setCell ⟨b + 1, 0, none⟩ (.int .i64 0)).heap[q]? := fun q hq => World.putObj_heap_other hq
  refine ⟨h.bw.trans (st.only.below h.bw.size fun q hq => (h.fl q hq).1), ?_, ?_, ?_, (hk _ (by omega) (by omega)).trans h.dd⟩
  · have hr := h.ro.keep (fun g hg => by have := h.nl g hg; exact (hp g (by omega)).trans (hk g (by omega) (by omega))) (Su.step st S) (fun _ h => h)
    exact hr.rd (fun q hq => .inl hq) fun q hq hs => by
      have h1 := (h.fl q (h.cf q ((h.cc q).2 (.inr hq)))).1
      have h2 := hS q hs
      omega
  · exact ((h.c1.set 0 lv).kept (Below.heap_setCell _ ⟨b + 1, 0, none⟩ _ _ (by simp))).kept (hp _ (by omega))
  · exact ((h.c2.kept (Below.heap_setCell _ ⟨b, 0, none⟩ _ _ (by simp))).set 0 (.int .i64 0)).kept (hp _ (by omega))
/-- Other things in the list's row, as many. -/
theorem Lst.same {W6 : World} {pre' : List α} (h : Lst K te ts w S b r pre W C F lv) (hg : W.grownBy W6 lv.ownBlock) (hr : Ro K te W6 (Su S F) lv pre') : Lst K te ts w S b r pre' W6 C F lv := by
  have h8 := h.eight
  have hk : ∀ q, q < b + 8 → W6.heap[q]? = W.heap[q]? := fun q hq => hg.block q (by omega) fun e => by have := h.nl q e.symm; omega
  have st : Step F W W6 F := ⟨⟨hg.os, hg.tape, hg.output, hg.size, fun q hq hn => hg.block q hq fun e => hn (h.cf q ((h.cc q).2 (.inr e.symm)))⟩, fun _ h => .inl h⟩
  exact { cl := h.cl.kept (hk _ (by omega)), ro := hr, cc := h.cc, cf := h.cf, nl := h.nl, ll := (hk _ (by omega)).trans h.ll, dd := (hk _ (by omega)).trans h.dd
          c1 := h.c1.kept (hk _ (by omega)), c2 := h.c2.kept (hk _ (by omega)), bw := h.bw.trans (st.only.below h.bw.size fun q hq => (h.fl q hq).1), fl := fun q hq => ⟨(h.fl q hq).1, Nat.lt_of_lt_of_le (h.fl q hq).2 st.size⟩ }
/-- One more in the list. -/
theorem Lst.put {W6 : World} {a : α} (h : Lst K te ts w S b r pre W C F lv) (hg : W.grownBy W6 lv.ownBlock) (hl : v'.ownBlock = lv.ownBlock ∨ v'.ownBlock = some W.heap.size) (hr : Ro K te W6 (Sv (Su S F) v') v' (pre ++ [a])) :
    Lst K te ts w S b r (pre ++ [a]) (W6.setCell ⟨b + 2, 0, none⟩ v') (fun q => Five b q ∨ v'.ownBlock = some q) (fun q => F q ∨ v'.ownBlock = some q) v' ∧
    Step C W (W6.setCell ⟨b + 2, 0, none⟩ v') (fun q => Five b q ∨ v'.ownBlock = some q) ∧ Cel W6 (b + 2) [lv] ts ∧ (∀ q, F q ∨ v'.ownBlock = some q → F q ∨ W.heap.size ≤ q) := by
  have hClb : C (b + 2) := h.five (by unfold Five; omega)
  have h8 := h.eight
  have hown : ∀ q, lv.ownBlock = some q → C q := fun q hq => (h.cc q).2 (.inr hq)
  have hvx : ∀ q, v'.ownBlock = some q → lv.ownBlock = some q ∨ W.heap.size ≤ q := fun q hq => by
    rcases hl with e | e
    · exact .inl (e ▸ hq)
    · rw [e] at hq
      cases hq
      exact .inr (Nat.le_refl _)
  have s6 : Step C W (W6.setCell ⟨b + 2, 0, none⟩ v') (Sv C v') := (step_own hg hown hl).set (p := ⟨b + 2, 0, none⟩) (.inl hClb) v'
  have hst : Step C W (W6.setCell ⟨b + 2, 0, none⟩ v') (fun q => Five b q ∨ v'.ownBlock = some q) := s6.weak fun q hq => hq.imp (fun hq => h.five hq) id
  have hm : ∀ q, F q ∨ v'.ownBlock = some q → F q ∨ W.heap.size ≤ q := fun q hq => hq.elim .inl fun hq => (hvx q hq).imp (fun hq => h.cf q (hown q hq)) id
  have hstF : Step F W (W6.setCell ⟨b + 2, 0, none⟩ v') (fun q => F q ∨ v'.ownBlock = some q) := ⟨s6.only.mono fun q _ hq => h.cf q hq, hm⟩
  have hnl : ∀ q, v'.ownBlock = some q → b + 8 ≤ q := fun q hq => (hvx q hq).elim (h.nl q) fun h1 => by omega
  have hsame : ∀ q, q < b + 8 → q ≠ b + 2 → (W6.setCell ⟨b + 2, 0, none⟩ v').heap[q]? = W.heap[q]? := fun q h1 h3 => (Below.heap_setCell _ ⟨b + 2, 0, none⟩ _ _ h3).trans (hg.block q (by omega) fun e => by have := h.nl q e.symm; omega)
  have eS : Sv (Su S F) v' = Su S (fun q => F q ∨ v'.ownBlock = some q) := by
    funext q
    unfold Sv Su
    exact propext or_assoc
  have hc6 : Cel W6 (b + 2) [lv] ts := h.cl.kept (hg.block _ (by omega) fun e => by have := h.nl _ e.symm; omega)
  refine ⟨{ cl := hc6.set 0 v', ro := ?_, cc := fun _ => Iff.rfl, cf := fun q hq => hq.imp (fun hq => h.cf q (h.five hq)) id, nl := hnl
            ll := (hsame _ (by omega) (by omega)).trans h.ll, dd := (hsame _ (by omega) (by omega)).trans h.dd
            c1 := h.c1.kept (hsame _ (by omega) (by omega)), c2 := h.c2.kept (hsame _ (by omega) (by omega))
            bw := h.bw.trans (hstF.only.below h.bw.size fun q hq => (h.fl q hq).1), fl := fun q hq => ?_ }, hst, hc6, hm⟩
  · rw [← eS]
    exact hr.keep (fun g hg' => Below.heap_setCell _ ⟨b + 2, 0, none⟩ _ _ (by have := hnl g hg'; show g ≠ b + 2; omega)) ((Step.refl _ W6).set (p := ⟨b + 2, 0, none⟩) (.inl (.inr (h.cf _ hClb))) v') (fun _ h => h)
  · have h6 : W6.heap.size ≤ (W6.setCell ⟨b + 2, 0, none⟩ v').heap.size := ((Step.refl (fun q => q = b + 2) W6).set (p := ⟨b + 2, 0, none⟩) rfl v').size
    rcases hq with hq | hq
    · exact ⟨(h.fl q hq).1, Nat.lt_of_lt_of_le (h.fl q hq).2 hst.size⟩
    · exact ⟨(hvx q hq).elim (fun h1 => (h.fl q (h.cf q (hown q h1))).1) fun h1 => Nat.le_trans h.bw.size h1, Nat.lt_of_lt_of_le (hr.own hq) h6⟩
end
end Go.Proofs.YtgekeemhbnhelaaGreat
namespace Go.Proofs.YtgekeemhbnhelaaGreat
open Go.RowKit
attribute [local go_sem] Oper.semAt_some

section
variable {w : World} {tb db pb fr : Nat} {D : Dv} {ps : List Pg} {S : Nat → Prop} {fv tv : Value} {f t : Bytes}
/-- What Scan answers. -/
def Scans (w : World) (S : Nat → Prop) (prs : List Pr) (e : Ending) (w' : World) : Prop := ∃ v, e = .returned (.tuple #[v, err 0]) ∧ Rd kdPr w' S v prs ∧ Below w.heap.size w w'

set_option maxRecDepth 100000 in
set_option maxHeartbeats 8000000 in
theorem scan_any (hT : TrS w tb db pb fr D ps S) (ho : D.on = true) (hf : Bsf w S fv f) (hs : Bsf w S tv t) {root : Int} {prs : List Pr} {pgs : List Nat} (hR : Rt (blkOf D fr) ps.length root prs pgs) (hM : pgs.length ≤ 4096) :
    Calls Tryz.prog 19 #[ptr tb, .int .i64 root, fv, tv] w (Scans w S (inSpan f t prs)) := by
  obtain ⟨fa, fc, rfl, _⟩ := hf.1.shape
  obtain ⟨ta, tc, rfl, _⟩ := hs.1.shape
  obtain ⟨fn, hfn⟩ : ∃ fn, fn = f.length := ⟨_, rfl⟩
  obtain ⟨tn, htn⟩ : ∃ tn, tn = t.length := ⟨_, rfl⟩
  rw [← hfn] at hf ⊢
  rw [← htn] at hs ⊢
  clear hfn htn
  have hroot := hR.lt.2
  have hb2 : Below w.heap.size w ((w.alloc (.cells #[.slice none 0 0] 28)).alloc (.cells #[.int .i64 0] 31)) := ((Below.refl _ _).alloc (Nat.le_refl _) _).alloc (by simp) _
  have C1 : Cel ((w.alloc (.cells #[.slice none 0 0] 28)).alloc (.cells #[.int .i64 0] 31)) w.heap.size [.slice none 0 0] 28 := (Cel.new w _ _).alloc _
  have C2 : Cel ((w.alloc (.cells #[.slice none 0 0] 28)).alloc (.cells #[.int .i64 0] 31)) (w.heap.size + 1) [.int .i64 0] 31 := by
    have := Cel.new (w.alloc (.cells #[.slice none 0 0] 28)) #[.int .i64 0] 31
    simpa using this
  obtain ⟨w2, hw2⟩ : ∃ w2, w2 = (w.alloc (.cells #[.slice none 0 0] 28)).alloc (.cells #[.int .i64 0] 31) := ⟨_, rfl⟩
  have hz2 : w2.heap.size = w.heap.size + 2 := by rw [hw2]; simp
  have R := tready_any root true _ (hT.below hb2)
  rw [hroot, if_pos ⟨rfl, rfl⟩] at R
  have PA := pairs_any tb root (.slice fa fn fc) (.slice ta tn tc) (w2.alloc (.cells #[.slice none 0 0] 28))
  rw [hw2] at PA
  rw [← hw2] at hb2 C1 C2
  have HC := Lib.hid (And.intro hb2 (And.intro C1 (And.intro C2 (And.intro hT (And.intro hf (And.intro hs (And.intro hR (And.intro hM (And.intro hz2 hw2)))))))))
  clear hroot hb2 C1 C2 hT hf hs hR hM hz2 hw2
  refine calls_of_wp_marked 12 Tryz.func19 rfl ?_
  simp only [Tryz.ntmps19, List.size_toArray, List.length_cons, List.length_nil, Nat.reduceAdd, Nat.reduceSub, Array.replicate_succ, Array.replicate_zero, List.push_toArray, List.append_toArray, List.nil_append, List.cons_append]
  go_wp2_with fail
  refine R.mono ?_
  rintro e w1 ⟨rfl, rfl⟩
  clear R
  go_wp2_with fail
  refine PA.mono ?_
  rintro e w1 ⟨rfl, rfl⟩
  clear PA
  go_wp2
  obtain ⟨hb2, C1, C2, hT, hf, hs, hR, hM, hz2, hw2⟩ := HC.out
  simp only [← hw2]
  clear hw2
  have BL := (((Cel.new w2 #[.slice none 0 0] 28).alloc (.cells #[ptr tb] 34)).alloc (.cells #[.int .i64 root] 3)).alloc (.cells #[.slice fa fn fc, .slice ta tn tc] 101)
  have BT := ((Cel.new (w2.alloc (.cells #[.slice none 0 0] 28)) #[ptr tb] 34).alloc (.cells #[.int .i64 root] 3)).alloc (.cells #[.slice fa fn fc, .slice ta tn tc] 101)
  have BR := (Cel.new ((w2.alloc (.cells #[.slice none 0 0] 28)).alloc (.cells #[ptr tb] 34)) #[.int .i64 root] 3).alloc (.cells #[.slice fa fn fc, .slice ta tn tc] 101)
  have BS := Cel.new (((w2.alloc (.cells #[.slice none 0 0] 28)).alloc (.cells #[ptr tb] 34)).alloc (.cells #[.int .i64 root] 3)) #[.slice fa fn fc, .slice ta tn tc] 101
  have hz6 : ((((w2.alloc (.cells #[.slice none 0 0] 28)).alloc (.cells #[ptr tb] 34)).alloc (.cells #[.int .i64 root] 3)).alloc (.cells #[.slice fa fn fc, .slice ta tn tc] 101)).heap.size = w.heap.size + 6 := by simp [hz2]
  have hb26 : Below w2.heap.size w2 ((((w2.alloc (.cells #[.slice none 0 0] 28)).alloc (.cells #[ptr tb] 34)).alloc (.cells #[.int .i64 root] 3)).alloc (.cells #[.slice fa fn fc, .slice ta tn tc] 101)) := ((((Below.refl _ _).alloc (Nat.le_refl _) _).alloc (by simp) _).alloc (by simp; omega) _).alloc (by simp; omega) _
  have hbw6 : Below w.heap.size w ((((w2.alloc (.cells #[.slice none 0 0] 28)).alloc (.cells #[ptr tb] 34)).alloc (.cells #[.int .i64 root] 3)).alloc (.cells #[.slice fa fn fc, .slice ta tn tc] 101)) := hb2.trans (hb26.mono (by omega))
  simp only [World.size_alloc, hz2, Nat.add_assoc, Nat.reduceAdd] at BL BT BR BS
  simp only [World.size_alloc, hz2, Nat.add_assoc, Nat.reduceAdd]
  replace C1 := C1.below hb26 C1.lt
  replace C2 := C2.below hb26 C2.lt
  generalize (((w2.alloc (.cells #[.slice none 0 0] 28)).alloc (.cells #[ptr tb] 34)).alloc (.cells #[.int .i64 root] 3)).alloc (.cells #[.slice fa fn fc, .slice ta tn tc] 101) = w6 at *
  refine range_on (n := 12) (by decide) (gf := 76) (lb := #[.pointer (some ⟨w.heap.size + 3, 0, none⟩), .pointer (some ⟨w.heap.size + 4, 0, none⟩), .pointer (some ⟨w.heap.size + 5, 0, none⟩)]) rfl (enters_of Tryz.func76 (by kernel_rfl) rfl) ?_
  intro gn rec W1 hrec hW1
  have bw1 : Below w6.heap.size w6 W1 := by rw [hW1]; exact ((Below.refl _ _).alloc (Nat.le_refl _) _).alloc (by simp) _
  have hz1 : W1.heap.size = w.heap.size + 8 := by rw [hW1]; simp [hz6]
  have bwW : Below w.heap.size w W1 := hbw6.trans (bw1.mono (by omega))
  have L1 : Lst kdPr 57 28 w S w.heap.size (rec .ready none) [] W1 (Five w.heap.size) (Five w.heap.size) (.slice none 0 0) := {
    cl := BL.below bw1 BL.lt
    ro := Ro.nil _ _ _ _
    cc := fun q => ⟨.inl, fun h => h.elim id fun h => by cases h⟩
    cf := fun _ h => h
    nl := fun q hq => by cases hq
    ll := by
      have := World.alloc_heap_new (w6.alloc (.deferred (some []))) (.loop (rec .ready none))
      rw [World.size_alloc, hz6] at this
      rw [hW1]
      exact this
    dd := by
      rw [hW1, ← hz6]
      exact (Below.heap_alloc _ _ _ (by simp)).trans (World.alloc_heap_new w6 _)
    c1 := C1.below bw1 C1.lt
    c2 := C2.below bw1 C2.lt
    bw := bwW
    fl := fun q hq => by unfold Five at hq; omega }
  rw [hz6]
  have hTk : TakesP (fun pre W C F => ∃ lv, Lst kdPr 57 28 w S w.heap.size (rec .ready none) pre W C F lv) S (4096 * 503) (w.heap.size + 7) := by
    rintro m acc p ka kc va vc W2 C F ⟨lv, hL⟩ hk hv hacc
    obtain ⟨kn, hkn⟩ : ∃ kn, kn = p.1.length := ⟨_, rfl⟩
    obtain ⟨vn, hvn⟩ : ∃ vn, vn = p.2.length := ⟨_, rfl⟩
    rw [← hkn] at hk ⊢
    rw [← hvn] at hv ⊢
    clear hkn hvn
    refine yield_deep (m := 12) m (yield_on (a₁ := { tmps := #[ptr tb, .int .i64 root, .slice fa fn fc, .slice ta tn tc, undef, undef, undef, undef, .pointer (some ⟨w.heap.size, 0, none⟩), .pointer (some ⟨w.heap.size + 1, 0, none⟩), err 0, .pointer (some ⟨w.heap.size + 2, 0, none⟩), .pointer (some ⟨W2.heap.size, 0, none⟩), .int .i64 0, ptr tb, .int .i64 root, err 0, err 0, .bool false, undef, ptr tb, .int .i64 root, .slice fa fn fc, .slice ta tn tc, spv (.slice fa fn fc) (.slice ta tn tc), .func (.func 76) #[] #[.pointer (some ⟨w.heap.size + 3, 0, none⟩), .pointer (some ⟨w.heap.size + 4, 0, none⟩), .pointer (some ⟨w.heap.size + 5, 0, none⟩)], .agg #[.slice ka kn kc, .slice va vn vc], .int .i64 0, undef, undef, undef, undef, undef, undef, undef, undef], defers := [] }) (W1 := W2.alloc (.cells #[.slice ka kn kc, .slice va vn vc] 57)) hrec hL.ll rfl ?assign ?hl1 ?body)
    case assign =>
      clear hT hf hs hR hM hL hk hv hacc L1 C1 C2 BL BT BR BS hb2 hb26 hbw6 bw1 bwW hW1 hz1 hz2 hz6
      intro K hK
      gi_wp2
      exact hK
    case hl1 => exact (Below.heap_alloc _ _ _ (Array.getElem?_eq_some_iff.1 hL.ll).1).trans hL.ll
    case body =>
      have hba : Below W2.heap.size W2 (W2.alloc (.cells #[.slice ka kn kc, .slice va vn vc] 57)) := (Below.refl _ _).alloc (Nat.le_refl _) _
      obtain ⟨hLb, stb⟩ := (hL.below hba).turn (rec .busy none)
      have h8 := hL.eight
      have CP := (Cel.new W2 #[.slice ka kn kc, .slice va vn vc] 57).kept (w' := (W2.alloc (.cells #[.slice ka kn kc, .slice va vn vc] 57)).putObj (w.heap.size + 7) (.loop (rec .busy none))) (World.putObj_heap_other (by omega))
      have st0 : Step C W2 ((W2.alloc (.cells #[.slice ka kn kc, .slice va vn vc] 57)).putObj (w.heap.size + 7) (.loop (rec .busy none))) C := (Step.of_below hba C).trans stb
      have stF : Step F W2 ((W2.alloc (.cells #[.slice ka kn kc, .slice va vn vc] 57)).putObj (w.heap.size + 7) (.loop (rec .busy none))) F := (Step.of_below hba F).trans (put_step (hL.cf _ (hL.five (by unfold Five; omega))))
      generalize (W2.alloc (.cells #[.slice ka kn kc, .slice va vn vc] 57)).putObj (w.heap.size + 7) (.loop (rec .busy none)) = Wb at *
      have hk2 := hk.step (Su.step stF S)
      have hv2 := hv.step (Su.step stF S)
      have hbl : Below Wb.heap.size Wb (Wb.alloc (.cells #[.slice ka kn kc, .slice va vn vc] 57)) := (Below.refl _ _).alloc (Nat.le_refl _) _
      have hLl := hLb.below hbl
      have hlit := rd_lit kdPr Wb 57 (Su S F) (fun q hq => hq.elim (fun h => by have := hT.lt q h; have := hLb.bw.size; omega) fun h => (hLb.fl q h).2) [⟨⟨ka, kn, kc⟩, ⟨va, vn, vc⟩, p⟩] #[.slice ka kn kc, .slice va vn vc] rfl (fun t ht => by rw [List.mem_singleton.1 ht]; exact ⟨hk2, hv2⟩) (by simp) (n := 1) rfl
      obtain ⟨v', w7, hrun, ro7, st7, gr7, lo7⟩ := run_append_ro (m := [p]) par_ty 28 hLl.ro hlit (by simp; omega)
      obtain ⟨hP, stP, hc7, hmP⟩ := hLl.put gr7 lo7 ro7
      obtain ⟨la, lc, rfl, _⟩ := hLl.ro.shape
      obtain ⟨ua, uc, rfl, _⟩ := ro7.shape
      obtain ⟨un, hun⟩ : ∃ un, un = (acc ++ [p]).length := ⟨_, rfl⟩
      rw [← hun] at hrun hP stP hmP
      obtain ⟨hPt, stt⟩ := hP.turn (rec .ready none)
      have hall := ((st0.bel hbl).trans stP).trans stt
      have hle : W2.heap.size ≤ (Wb.alloc (.cells #[.slice ka kn kc, .slice va vn vc] 57)).heap.size := (st0.bel hbl).size
      have x0 := CP.cell 0
      have x1 := CP.cell 1
      have l0 := hLb.cl.cell 0
      have l7 := hc7.cell 0
      have f7 := hc7.frozen 0
      have HE := Lib.hid (And.intro hP (And.intro hPt (And.intro hall (fun q hq => (hmP q hq).imp id fun h => Nat.le_trans hle h))))
      clear hT hf hs hR hM hL hk hv hacc L1 C1 C2 BL BT BR BS hb2 hb26 hbw6 bw1 bwW hW1 hz1 hz2 hz6 hba hLb stb h8 CP st0 stF hk2 hv2 hbl hLl hlit ro7 st7 gr7 lo7 hP stP hc7 hmP hun hPt stt hall hle hrec
      gi_wp2_with (gi_at_builtin; refine round_append_run rfl (.tmp 31) (.tmp 33) _ rfl rfl rfl hrun ?_)
      obtain ⟨hP, hPt, hall, hm⟩ := HE.out
      exact ⟨hP.ll, _, hall, _, ⟨_, hPt⟩, fun q hq => .inl hq, hm⟩
  refine ((callsIn_wide (n := 12 - 1)).2 (pairs1_any Lst.holds hT ho hf hs hTk hR ⟨_, L1⟩ ((BR.below bw1 BR.lt).cell 0) ((BT.below bw1 BT.lt).cell 0) (BS.below bw1 BS.lt) (fun h => by unfold Five at h; omega) hM)).mono ?_
  rintro e W2 ⟨⟨r, rfl⟩, C8, F8, st8, lv, hL8⟩
  refine ⟨⟨_, rfl⟩, hL8.ll, ?_⟩
  obtain ⟨hLe, -⟩ := hL8.turn (rec .exhausted none)
  obtain ⟨la, lc, rfl, _⟩ := hLe.ro.shape
  obtain ⟨an, han⟩ : ∃ an, an = (inSpan f t prs).length := ⟨_, rfl⟩
  rw [← han] at hLe
  have hD := hLe.done hT.lt
  have l0 := hLe.cl.cell 0
  have e0 := hLe.c1.cell 0
  have e1 := hLe.c2.cell 0
  have g0 := hLe.c1.frozen 0
  have g1 := hLe.c2.frozen 0
  have HE := Lib.hid hD
  clear hT hf hs hR hM L1 C1 C2 BL BT BR BS hb2 hb26 hbw6 bw1 bwW hW1 hz1 hz2 hz6 hTk hL8 st8 hLe hD han hrec
  generalize W2.putObj (w.heap.size + 7) (.loop (rec .exhausted none)) = We at *
  go_wp2
  obtain ⟨hb, hr, h1, h2, hd⟩ := HE.out
  refine ⟨by simp, .inl ⟨_, _, rfl, run_takeDeferred hd, ?_⟩⟩
  exact ⟨_, results_cells2 (v1 := .slice la an lc) (v2 := .int .i64 0) rfl rfl rfl Tryz.underlying28 rfl Tryz.underlying31 rfl (h1.cell 0) (h2.cell 0), _, rfl, hr, hb⟩
end
end Go.Proofs.YtgekeemhbnhelaaGreat
