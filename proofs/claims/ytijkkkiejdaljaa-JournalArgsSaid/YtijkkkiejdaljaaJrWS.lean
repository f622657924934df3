/- What a journal's write holds in its own boxes while it goes through the pieces; no condition. -/
import Derived.Test.YtijkkkiejdaljaaJrPut
import Derived.Test.YtijkkkiejdaljaaJrPieces
namespace Go.Proofs.Ytijkkkiejdaljaa
open Go.RowKit
attribute [local go_sem] Oper.semAt_some

/-- Between two rounds, and where a round has left: what the call's own boxes hold, and the device. -/
structure WS (w : World) (F : Nat → Prop) (jb b : Nat) (v : Value) (r0 : Loop) (D' : Dv) (t' : Spot) (c : Int) (W : World) : Prop where
  only : Only F w W
  dev : ∃ G, Dev W b D' G ∧ ∀ q, G q → F q ∨ w.heap.size + 6 ≤ q
  b2 : Cel W w.heap.size [ptr jb] 29
  b4 : Cel W (w.heap.size + 1) (spotL t') 65
  b5 : Cel W (w.heap.size + 2) [err c] 39
  bp : Cel W (w.heap.size + 3) [v] 37
  dd : W.heap[w.heap.size + 4]? = some (.deferred (some []))
  ll : W.heap[w.heap.size + 5]? = some (.loop r0)

theorem WS.turn {w W : World} {F : Nat → Prop} {jb b : Nat} {v : Value} {r0 : Loop} {D' : Dv} {t' : Spot} {c : Int} (hF : ∀ q, F q → q < w.heap.size) (h : WS w F jb b v r0 D' t' c W) (r1 : Loop) :
    WS w F jb b v r1 D' t' c (W.putObj (w.heap.size + 5) (.loop r1)) := by
  have hl := (Array.getElem?_eq_some_iff.1 h.ll).1
  have hk : ∀ q, q ≠ w.heap.size + 5 → (W.putObj (w.heap.size + 5) (.loop r1)).heap[q]? = W.heap[q]? := fun q hq => World.putObj_heap_other hq
  have hz : W.heap.size ≤ (W.putObj (w.heap.size + 5) (.loop r1)).heap.size := by simp [World.putObj]
  obtain ⟨G, hG, hG'⟩ := h.dev
  exact {
    only := ⟨h.only.os, h.only.tape, h.only.output, Nat.le_trans h.only.size hz, fun k hk' hs => (hk k (by omega)).trans (h.only.block k hk' hs)⟩
    dev := ⟨G, hG.kept (fun q hq => hk q (by
      rcases hG' q hq with h1 | h1
      · have := hF q h1; omega
      · omega)) hz, hG'⟩
    b2 := h.b2.kept (hk _ (by omega))
    b4 := h.b4.kept (hk _ (by omega))
    b5 := h.b5.kept (hk _ (by omega))
    bp := h.bp.kept (hk _ (by omega))
    dd := (hk _ (by omega)).trans h.dd
    ll := World.putObj_heap_same hl }

section
variable {w W W2 : World} {F G : Nat → Prop} {jb b : Nat} {v : Value} {r0 : Loop} {D' D'' : Dv} {t' : Spot} {c : Int}

theorem WS.step (h : WS w F jb b v r0 D' t' c W) (hG : ∀ q, G q → F q ∨ w.heap.size + 6 ≤ q) (hF : ∀ q, F q → q < w.heap.size) (hd : Dev W2 b D'' (Grow G W W2)) (ho : Only G W W2) : WS w F jb b v r0 D'' t' c W2 := by
  have hz := (Array.getElem?_eq_some_iff.1 h.ll).1
  have hk : ∀ q, w.heap.size ≤ q → q < w.heap.size + 6 → W2.heap[q]? = W.heap[q]? := fun q h1 h2 => ho.block q (by omega) fun hg => by
    rcases hG q hg with h3 | h3
    · have := hF q h3; omega
    · omega
  exact {
    only := h.only.then ho fun q hq => (hG q hq).imp id fun h => by omega
    dev := ⟨_, hd, fun q hq => by
      rcases hq with hq | hq
      · exact hG q hq
      · exact .inr (by omega)⟩
    b2 := h.b2.kept (hk _ (by omega) (by omega))
    b4 := h.b4.kept (hk _ (by omega) (by omega))
    b5 := h.b5.kept (hk _ (by omega) (by omega))
    bp := h.bp.kept (hk _ (by omega) (by omega))
    dd := (hk _ (by omega) (by omega)).trans h.dd
    ll := (hk _ (by omega) (by omega)).trans h.ll }

theorem WS.below (h : WS w F jb b v r0 D' t' c W) (hF : ∀ q, F q → q < w.heap.size) (hb : Below W.heap.size W W2) : WS w F jb b v r0 D' t' c W2 := by
  obtain ⟨G, hG, hG'⟩ := h.dev
  have hz := (Array.getElem?_eq_some_iff.1 h.ll).1
  exact h.step hG' hF ((hG.below hb).widen (fun q hq => .inl hq) (fun q hq => by
    rcases hq with hq | hq
    · have := hG.fl q hq; have := hb.size; omega
    · exact hq.2)) (Only.of_below hb G)

theorem WS.cell4 (h : WS w F jb b v r0 D' t' c W) (i : Nat) (u : Value) {t'' : Spot} (hc : (spotL t').set i u = spotL t'') (hF : ∀ q, F q → q < w.heap.size) : WS w F jb b v r0 D' t'' c (W.setCell ⟨w.heap.size + 1, i, none⟩ u) := by
  have hk : ∀ q, q ≠ w.heap.size + 1 → (W.setCell ⟨w.heap.size + 1, i, none⟩ u).heap[q]? = W.heap[q]? := fun q hq => Below.heap_setCell W ⟨w.heap.size + 1, i, none⟩ u q hq
  obtain ⟨G, hG, hG'⟩ := h.dev
  have ho := (Only.refl (fun q => q = w.heap.size + 1) W).setCell (p := ⟨w.heap.size + 1, i, none⟩) (.inl rfl) u
  exact {
    only := h.only.setCell (p := ⟨w.heap.size + 1, i, none⟩) (.inr (by simp)) u
    dev := ⟨G, hG.other ho fun q hq e => by
      rcases hG' q hq with h1 | h1
      · have := hF q h1; omega
      · omega, hG'⟩
    b2 := h.b2.kept (hk _ (by omega))
    b4 := by
      have := h.b4.set i u
      rw [hc] at this
      exact this
    b5 := h.b5.kept (hk _ (by omega))
    bp := h.bp.kept (hk _ (by omega))
    dd := (hk _ (by omega)).trans h.dd
    ll := (hk _ (by omega)).trans h.ll }

theorem WS.cell5 (h : WS w F jb b v r0 D' t' c W) (c' : Int) (hF : ∀ q, F q → q < w.heap.size) : WS w F jb b v r0 D' t' c' (W.setCell ⟨w.heap.size + 2, 0, none⟩ (err c')) := by
  have hk : ∀ q, q ≠ w.heap.size + 2 → (W.setCell ⟨w.heap.size + 2, 0, none⟩ (err c')).heap[q]? = W.heap[q]? := fun q hq => Below.heap_setCell W ⟨w.heap.size + 2, 0, none⟩ (err c') q hq
  obtain ⟨G, hG, hG'⟩ := h.dev
  have ho := (Only.refl (fun q => q = w.heap.size + 2) W).setCell (p := ⟨w.heap.size + 2, 0, none⟩) (.inl rfl) (err c')
  exact {
    only := h.only.setCell (p := ⟨w.heap.size + 2, 0, none⟩) (.inr (by simp)) _
    dev := ⟨G, hG.other ho fun q hq e => by
      rcases hG' q hq with h1 | h1
      · have := hF q h1; omega
      · omega, hG'⟩
    b2 := h.b2.kept (hk _ (by omega))
    b4 := h.b4.kept (hk _ (by omega))
    b5 := h.b5.set 0 (err c')
    bp := h.bp.kept (hk _ (by omega))
    dd := (hk _ (by omega)).trans h.dd
    ll := (hk _ (by omega)).trans h.ll }
theorem WS.spot (h : WS w F jb b v r0 D' t' c W) (t'' : Spot) (hF : ∀ q, F q → q < w.heap.size) : WS w F jb b v r0 D' t'' c ((W.setCell ⟨w.heap.size + 1, 0, none⟩ (.int .i64 (t''.1 : Int))).setCell ⟨w.heap.size + 1, 1, none⟩ (.int .u64 (t''.2 : Int))) :=
  (h.cell4 (t'' := (t''.1, t'.2)) 0 (.int .i64 (t''.1 : Int)) rfl hF).cell4 (t'' := t'') 1 (.int .u64 (t''.2 : Int)) rfl hF
theorem WS.drew (h : WS w F jb b v r0 D' t' c W) (hF : ∀ q, F q → q < w.heap.size) : WS w F jb b v r0 D' t' c W.drew := h.below hF ⟨rfl, rfl, rfl, Nat.le_refl _, fun _ _ => rfl⟩
theorem WS.cells (h : WS w F jb b v r0 D' t' c W) : W.cell? ⟨w.heap.size, 0, none⟩ = some (ptr jb) ∧ W.cell? ⟨w.heap.size + 1, 0, none⟩ = some (.int .i64 (t'.1 : Int)) ∧ W.cell? ⟨w.heap.size + 1, 1, none⟩ = some (.int .u64 (t'.2 : Int)) ∧ W.cell? ⟨w.heap.size + 2, 0, none⟩ = some (err c) ∧
    W.frozen? ⟨w.heap.size + 1, 0, none⟩ = false ∧ W.frozen? ⟨w.heap.size + 1, 1, none⟩ = false ∧ W.frozen? ⟨w.heap.size + 2, 0, none⟩ = false :=
  ⟨by rw [h.b2.cell]; rfl, by rw [h.b4.cell]; rfl, by rw [h.b4.cell]; rfl, by rw [h.b5.cell]; rfl, h.b4.frozen 0, h.b4.frozen 1, h.b5.frozen 0⟩
/-- The call ends so. -/
theorem WS.ends (h : WS w F jb b v r0 D' t' c W) (hF : ∀ q, F q → q < w.heap.size) : Dev (W.putObj (w.heap.size + 4) (.deferred none)) b D' (Grow F w (W.putObj (w.heap.size + 4) (.deferred none))) ∧ Only F w (W.putObj (w.heap.size + 4) (.deferred none)) ∧
    Cel (W.putObj (w.heap.size + 4) (.deferred none)) (w.heap.size + 1) (spotL t') 65 ∧ Cel (W.putObj (w.heap.size + 4) (.deferred none)) (w.heap.size + 2) [err c] 39 := by
  obtain ⟨G, hG, hG'⟩ := h.dev
  have hl := (Array.getElem?_eq_some_iff.1 h.ll).1
  have hk : ∀ q, q ≠ w.heap.size + 4 → (W.putObj (w.heap.size + 4) (.deferred none)).heap[q]? = W.heap[q]? := fun q hq => World.putObj_heap_other hq
  have hz : W.heap.size ≤ (W.putObj (w.heap.size + 4) (.deferred none)).heap.size := by simp [World.putObj]
  refine ⟨(hG.kept (fun q hq => hk q ?_) hz).widen (fun q hq => ?_) (fun q hq => ?_), ?_, h.b4.kept (hk _ (by omega)), h.b5.kept (hk _ (by omega))⟩
  · rcases hG' q hq with h1 | h1
    · have := hF q h1; omega
    · omega
  · rcases hG' q hq with h1 | h1
    · exact .inl h1
    · exact .inr ⟨by omega, Nat.lt_of_lt_of_le (hG.fl q hq) hz⟩
  · rcases hq with hq | hq
    · have := hF q hq; omega
    · exact hq.2
  · exact ⟨h.only.os, h.only.tape, h.only.output, Nat.le_trans h.only.size hz, fun k hk' hs => (hk k (by omega)).trans (h.only.block k hk' hs)⟩
end

theorem putsD_stop {J : Jn} : ∀ (x y : List Bytes) (D : Dv) (t : Spot), (putsD J D t x).2.2 ≠ 0 → putsD J D t (x ++ y) = putsD J D t x
  | [], _, _, _, h => absurd rfl h
  | b :: x, y, D, t, h => by
    rw [List.cons_append, putsD, putsD]
    rw [putsD] at h
    by_cases hc : putC J D t 1 b = 0
    · rw [if_pos hc] at h ⊢
      rw [if_pos hc]
      exact putsD_stop x y _ _ h
    · rw [if_neg hc, if_neg hc]
theorem piecesTo_split (l : Bytes) {k m : Nat} (h : k ≤ m) : ∃ y, piecesTo l m = piecesTo l k ++ y := by
  refine ⟨(piecesTo l m).drop k, ?_⟩
  have : (piecesTo l m).take k = piecesTo l k := by
    unfold piecesTo
    rw [← List.map_take, List.take_range, Nat.min_eq_left h]
  rw [← this, List.take_append_drop]
theorem putsD_more {J : Jn} {D D' : Dv} {l : Bytes} {k : Nat} {t' : Spot} (h : putsD J D J.spot (piecesTo l k) = (D', t', 0)) :
    putsD J D J.spot (piecesTo l (k + 1)) = if putC J D' t' 1 (pieceAt l k) = 0 then (putD J D' t' 1 (pieceAt l k), behindS t' (J.blk t' 1 (pieceAt l k)), 0) else (putD J D' t' 1 (pieceAt l k), (0, 0), putC J D' t' 1 (pieceAt l k)) := by
  rw [piecesTo_succ, putsD_append _ _ _ _ _ _ h]
  rfl

/-! ### the call's end -/
theorem results_cell2 {P : Program} {fn : Func} {t u : Tmp} {ty tz : TypeId} (h : fn.results = #[.cell t ty, .cell u tz]) {tmps : Array Value} {w : World} {a a2 : Addr} {v v2 : Value} (ha : tmps.getD t undef = .pointer (some a)) (ha2 : tmps.getD u undef = .pointer (some a2))
    (hl : (loadVar ty a).run P w = .ok v w) (hl2 : (loadVar tz a2).run P w = .ok v2 w) : (results fn tmps).run P w = .ok (.tuple #[v, v2]) w := by
  have ha' : tmps[t]?.getD undef = .pointer (some a) := by rw [← Array.getD_eq_getD_getElem?]; exact ha
  have ha2' : tmps[u]?.getD undef = .pointer (some a2) := by rw [← Array.getD_eq_getD_getElem?]; exact ha2
  simp [results, h, ha', ha2', asAddr, hl, hl2]
theorem load_err {w : World} {g : Nat} {c : Int} (h : Cel w g [err c] 39) : (loadVar 39 ⟨g, 0, none⟩).run Try.prog w = .ok (err c) w := by
  have c0 : w.cell? ⟨g, 0, none⟩ = some (err c) := by rw [h.cell]; rfl
  go_simp

theorem write_stop {J : Jn} {D Dk : Dv} {l : Bytes} {k : Nat} {c : Int} (hp : putsD J D J.spot (piecesTo l (k + 1)) = (Dk, (0, 0), c)) (hc : c ≠ 0) (hk : k < nPieces l.length) : writeD J D l = (Dk, (0, 0), c) := by
  obtain ⟨y, hy⟩ := piecesTo_split l (show k + 1 ≤ nPieces l.length by omega)
  have h1 : putsD J D J.spot (piecesL l) = (Dk, (0, 0), c) := by
    unfold piecesL
    rw [hy, putsD_stop _ _ _ _ (by rw [hp]; exact hc), hp]
  unfold writeD
  rw [h1, if_pos hc]
theorem write_close {J : Jn} {D Dm : Dv} {l : Bytes} {tm : Spot} (hp : putsD J D J.spot (piecesTo l (nPieces l.length)) = (Dm, tm, 0)) : writeD J D l = closeD J Dm tm := by
  have h1 : putsD J D J.spot (piecesL l) = (Dm, tm, 0) := hp
  unfold writeD
  rw [h1]
  rfl
end Go.Proofs.Ytijkkkiejdaljaa
