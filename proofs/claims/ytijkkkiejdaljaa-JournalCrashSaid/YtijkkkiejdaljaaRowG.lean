/- Rows of byte strings in the model's memory, within a footprint: what stays, one more, what is read; no condition. -/
import Derived.Test.YtijkkkiejdaljaaDevWrote
namespace Go.Proofs.Ytijkkkiejdaljaa
open Go.RowKit Go.Maps

/-- A row of slices of bytes that read as these, all within the footprint. -/
def RowG (w : World) (G : Nat → Prop) (v : Value) (ls : List Bytes) : Prop :=
  ∃ vals, w.ownsRow 0 37 1 v ls.length vals ∧ (∀ (i : Nat) (l : Bytes), ls[i]? = some l → ∃ u, vals[i]? = some u ∧ Bs w u l ∧ ∀ q, u.ownBlock = some q → G q ∧ q < w.heap.size ∧ v.ownBlock ≠ some q) ∧ ∀ q, v.ownBlock = some q → G q

section
variable {w w' : World} {G G' S : Nat → Prop} {v : Value} {ls : List Bytes}

theorem RowG.nil (w : World) (G : Nat → Prop) : RowG w G nilSl [] := ⟨[], World.ownsRow_nil _ _ _ _, (fun i l h => by simp at h), fun g h => by cases h⟩
theorem RowG.only (h : RowG w G v ls) (ho : Only S w w') (hd : ∀ q, G q → ¬ S q) : RowG w' G v ls := by
  obtain ⟨vals, hr, he, hv⟩ := h
  refine ⟨vals, ⟨hr.1, ?_⟩, fun i l hl => ?_, hv⟩
  · rcases hr.2 with h' | ⟨g, cap, cur, e1, e2, e3, r⟩
    · exact .inl h'
    · exact .inr ⟨g, cap, cur, e1, e2, (ho.block g ((Array.getElem?_eq_some_iff.1 e3).1) (hd g (hv g (by rw [e1]; rfl)))).trans e3, r⟩
  · obtain ⟨u, hu, hb, hq⟩ := he i l hl
    exact ⟨u, hu, hb.only ho fun q hq' => hd q (hq q hq').1, fun q hq' => ⟨(hq q hq').1, Nat.lt_of_lt_of_le (hq q hq').2.1 ho.size, (hq q hq').2.2⟩⟩
theorem RowG.below (h : RowG w G v ls) (hb : Below w.heap.size w w') : RowG w' G v ls := h.only (Only.of_below hb fun _ => False) fun _ _ h => h
theorem RowG.widen (h : RowG w G v ls) (hg : ∀ q, G q → G' q) : RowG w G' v ls := by
  obtain ⟨vals, hr, he, hv⟩ := h
  exact ⟨vals, hr, fun i l hl => let ⟨u, hu, hb, hq⟩ := he i l hl; ⟨u, hu, hb, fun q hq' => ⟨hg q (hq q hq').1, (hq q hq').2⟩⟩, fun q hq => hg q (hv q hq)⟩
theorem RowG.shape (h : RowG w G v ls) : ∃ a cap, v = .slice a ls.length cap := by
  obtain ⟨vals, ho, _, _⟩ := h
  rcases ho.2 with ⟨rfl, h0⟩ | ⟨g, cap, cur, rfl, _⟩
  · exact ⟨none, 0, by rw [h0]⟩
  · exact ⟨_, cap, rfl⟩
theorem RowG.cells (h : RowG w G v ls) (hn : 0 < ls.length) : ∃ g cap, v = .slice (some ⟨g, 0, none⟩) ls.length cap ∧ ∀ (i : Nat) (l : Bytes), ls[i]? = some l → ∃ a c, w.cell? ⟨g, i, none⟩ = some (.slice a l.length c) ∧ Bs w (.slice a l.length c) l := by
  obtain ⟨vals, ho, he, hv⟩ := h
  rcases ho.2 with ⟨rfl, h0⟩ | ⟨g, cap, cur, rfl, hbg, hh, r⟩
  · omega
  · refine ⟨g, cap, rfl, fun i l hi => ?_⟩
    obtain ⟨u, hu, hb, _⟩ := he i l hi
    have hlt := (List.getElem?_eq_some_iff.1 hi).1
    obtain ⟨a, c, rfl, hb'⟩ := hb.shape
    refine ⟨a, c, ?_, hb'⟩
    rw [ho.cellAt i (by omega)]
    exact hu

/-- One more. -/
theorem RowG.push (h : RowG w G v ls) {u : Value} {l : Bytes} (hu : Bs w u l) (hG : ∀ q, u.ownBlock = some q → G q ∧ q < w.heap.size ∧ v.ownBlock ≠ some q) (hn : ls.length < 4294967296) :
    ∃ v' w', (Builtin.append_ #[43, 43] 43 #[v, .slice (some ⟨w.heap.size, 0, none⟩) 1 1]).run Try.prog (w.alloc (.cells #[u] 37)) = .ok v' w' ∧
      RowG w' (Grow G w w') v' (ls ++ [l]) ∧ Only (fun q => v.ownBlock = some q) w w' := by
  obtain ⟨i0, hi, hz0, hz1, hz2⟩ := info_parts row_info
  obtain ⟨ua, uc, rfl, hu'⟩ := hu.shape
  have hnew := cell_one_new w (.slice ua l.length uc) 37
  have h3 := h.below ((Below.refl w.heap.size w).alloc (Nat.le_refl _) (.cells #[.slice ua l.length uc] 37))
  obtain ⟨vals, hr, he, hv⟩ := h3
  obtain ⟨v', w4, hrun, ho4, hg4, _, hloc⟩ := run_append_own_at (P := Try.prog) (w := w.alloc (.cells #[.slice ua l.length uc] 37)) 0 43 43 37 i0 nilSl 1 24 Try.underlying43 hi hz0 hz1 hz2 rfl (by decide) v ls.length vals hr
    ⟨w.heap.size, 0, none⟩ 1 1 [.slice ua l.length uc] rfl hnew (by simp [Value.oneCell']) (by unfold maxLen; omega) (by omega) (Nat.zero_le _)
  have z0 : (w.alloc (.cells #[.slice ua l.length uc] 37)).heap.size = w.heap.size + 1 := by simp
  have z4 := hg4.size
  have o1 : Only (fun q => v.ownBlock = some q) w (w.alloc (.cells #[.slice ua l.length uc] 37)) := (Only.refl _ w).alloc _
  have o4 : Only (fun q => v.ownBlock = some q) w w4 := o1.grown hg4 (fun q e => .inl e)
  have og : Only (fun q => v.ownBlock = some q) (w.alloc (.cells #[.slice ua l.length uc] 37)) w4 := (Only.refl _ _).grown hg4 (fun q e => .inl e)
  have v'ne : ∀ q, v.ownBlock ≠ some q → q < w.heap.size → v'.ownBlock ≠ some q := fun q h1 h2 e => by
    rcases hloc with hl | hl
    · exact h1 (hl ▸ e)
    · rw [hl] at e
      cases e
      omega
  refine ⟨v', w4, hrun, ⟨vals ++ [.slice ua l.length uc], ?_, fun i m hm => ?_, fun q e => ?_⟩, o4⟩
  · rw [List.length_append]
    exact ho4
  · by_cases hlt : i < ls.length
    · rw [List.getElem?_append_left hlt] at hm
      obtain ⟨x, hx, hb, hq⟩ := he i m hm
      refine ⟨x, ?_, hb.only og fun q e => (hq q e).2.2, fun q e => ?_⟩
      · rw [List.getElem?_append_left (by have := (List.getElem?_eq_some_iff.1 hx).1; exact this)]
        exact hx
      · obtain ⟨h1, h2, h3⟩ := hq q e
        by_cases hqs : q < w.heap.size
        · exact ⟨.inl h1, by omega, v'ne q h3 hqs⟩
        · refine ⟨.inl h1, by omega, fun e' => ?_⟩
          rcases hloc with hl | hl
          · exact h3 (hl ▸ e')
          · rw [hl] at e'
            cases e'
            omega
    · have hlen := hr.1
      rw [List.getElem?_append_right (by omega)] at hm
      have hi0 : i = ls.length := by
        have := (List.getElem?_eq_some_iff.1 hm).1
        simp at this
        omega
      subst hi0
      rw [Nat.sub_self, List.getElem?_cons_zero, Option.some.injEq] at hm
      subst hm
      refine ⟨.slice ua l.length uc, ?_, hu.only o4 fun q e => (hG q e).2.2, fun q e => ⟨.inl (hG q e).1, by have := (hG q e).2.1; omega, v'ne q (hG q e).2.2 (hG q e).2.1⟩⟩
      rw [List.getElem?_append_right (by omega), show ls.length - vals.length = 0 by omega]
      rfl
  · rcases hloc with hl | hl
    · exact .inl (hv q (hl ▸ e))
    · have := (World.ownsRow.lt ho4 q e).2
      rw [hl] at e
      cases e
      exact .inr ⟨by omega, by omega⟩
end

theorem ow_only {w w' : World} {S : Nat → Prop} {base : Nat} {e : TypeId} {v : Value} {l : Bytes} (h : Ow w base e v l) (ho : Only S w w') (hd : ∀ q, v.ownBlock = some q → ¬ S q) : Ow w' base e v l := by
  refine ⟨h.1, ?_⟩
  rcases h.2 with h' | ⟨g, cap, cur, e1, e2, e3, r⟩
  · exact .inl h'
  · exact .inr ⟨g, cap, cur, e1, e2, (ho.block g ((Array.getElem?_eq_some_iff.1 e3).1) (hd g (by rw [e1]; rfl))).trans e3, r⟩

section
variable {P : Program} {ops : Array Oper} {rest : List Oper} {o : Oper} {a : Act} {w w' : World} {Q : Exit → Act → World → Prop}
/-- A built-in append whose run is known, in a list of operations. -/
theorem wpList_append_run (hgd : o.guard = none) {v x v' : Value} (sl xl : Operand) (ty : TypeId) (ho : o.op = .call { callee := .builtin .append, args := #[sl, xl], argTypes := #[ty, ty] }) (hs : a.eval sl = v) (hx : a.eval xl = x)
    (hr : (Builtin.append_ #[ty, ty] o.type #[v, x]).run P w = .ok v' w') (h : wpList P ops Q rest (a.put o.dst v') w') : wpList P ops Q (o :: rest) a w := by
  refine wpList_plain hgd fun _ hK => ?_
  unfold Oper.wp execOp
  simp only [ho, resolve, invoke, builtin, Sem.run_bind, Sem.run_pure, Result.andThen_ok, List.map_toArray, List.map_cons, List.map_nil, hs, hx, hr]
  exact hK _ _ h

theorem run_append_bs_at {t e : TypeId} (T : ByteTy P t e) (w : World) (base : Nat) (ty : TypeId) {v x : Value} {l m : List UInt8} (hv : Ow w base e v l) (hx : Bs w x m)
    (hn : l.length + m.length ≤ 140737488355328) (hbase : base ≤ w.heap.size) :
    ∃ v' w', (Builtin.append_ #[t, t] ty #[v, x]).run P w = .ok v' w' ∧ Ow w' base e v' (l ++ m) ∧ w.grownBy w' v.ownBlock ∧ (v'.ownBlock = v.ownBlock ∨ v'.ownBlock = some w.heap.size) := by
  obtain ⟨i, hi, hz, hs, hb⟩ := T.parts
  obtain ⟨a, cap, rfl, h2, h3, h4, h5⟩ := hx
  rcases a with _ | ad
  · have hc := h4 rfl
    subst hc
    have hm : m = [] := List.eq_nil_of_length_eq_zero (by omega)
    subst hm
    exact ⟨v, w, run_append_owned_none (P := P) w base t ty e i 1 T.slice hi v l.length (bvs l) hv, by simpa using hv, ⟨rfl, rfl, rfl, Nat.le_refl _, fun _ _ _ => rfl⟩, .inl rfl⟩
  · obtain ⟨v', w', hr, ho, hg, _, hl⟩ := run_append_own_at (P := P) (w := w) base t ty e i (.int .u8 0) 1 1 T.slice hi hz hs hb rfl (by decide) v l.length (bvs l) hv ad m.length cap (bvs m) (by simp [bvs_length])
      (h5 ad rfl) bvs_one (by unfold maxLen; omega) (by omega) hbase
    exact ⟨v', w', hr, by simpa [Ow, bvs_append, List.length_append] using ho, hg, hl⟩
end
end Go.Proofs.Ytijkkkiejdaljaa
