/- A slice of numbers in new memory; no condition. -/
import Derived.Test.YtmdjgkclbjbdiaaNtWorks
namespace Go.Proofs.Ytmdjgkclbjbdiaa
open Go.RowKit

/-- A row of numbers in a block of its own. -/
def Rn (w : World) (g cap : Nat) (l : List Int) : Prop := ∃ rest, Cel w g (ivL l ++ rest) 2 ∧ l.length ≤ 4294967296 ∧ l.length ≤ cap
theorem Rn.fs {w : World} {g cap : Nat} {l : List Int} (h : Rn w g cap l) (hc : cap ≤ maxLen) : Fs w (.slice (some ⟨g, 0, none⟩) l.length cap) l := by
  obtain ⟨rest, hcel, h1, h2⟩ := h
  refine ⟨l, by simp [kdI], ⟨_, cap, rfl, h2, hc, (fun h => by cases h), by rw [kdI_cells]; simp [ivL, kdI], fun ad had j u hu => ?_⟩, fun _ _ => trivial, fun _ _ _ h => h⟩
  cases had
  rw [kdI_cells] at hu
  rw [Addr.add_lit, Nat.zero_add, hcel.cell, List.getElem?_append_left (List.getElem?_eq_some_iff.1 hu).1]
  exact hu
theorem Rn.below {w w' : World} {g cap : Nat} {l : List Int} (h : Rn w g cap l) (hb : Below w.heap.size w w') : Rn w' g cap l := let ⟨rest, hc, h1⟩ := h; ⟨rest, hc.below hb hc.lt, h1⟩
theorem Rn.kept {w w' : World} {g cap : Nat} {l : List Int} (h : Rn w g cap l) (hk : w'.heap[g]? = w.heap[g]?) : Rn w' g cap l := let ⟨rest, hc, h1⟩ := h; ⟨rest, hc.kept hk, h1⟩
theorem Rn.set {w : World} {g cap : Nat} {l : List Int} (h : Rn w g cap l) {i : Nat} (hi : i < l.length) (x : Int) : Rn (w.setCell ⟨g, i, none⟩ (.int .i64 x)) g cap (l.set i x) := by
  obtain ⟨rest, hc, h1, h2⟩ := h
  refine ⟨rest, ?_, by rw [List.length_set]; exact h1, by rw [List.length_set]; exact h2⟩
  have := hc.set i (.int .i64 x)
  rw [List.set_append_left _ _ (by simpa [ivL] using hi), ivL_set] at this
  exact this
theorem Rn.at {w : World} {g cap : Nat} {l : List Int} (h : Rn w g cap l) {i : Nat} {x : Int} (hx : l[i]? = some x) : w.cell? ⟨g, i, none⟩ = some (.int .i64 x) := by
  obtain ⟨rest, hc, h1⟩ := h
  rw [hc.cell, List.getElem?_append_left (by simpa [ivL] using (List.getElem?_eq_some_iff.1 hx).1)]
  exact ivL_at hx
theorem Rn.frozen {w : World} {g cap : Nat} {l : List Int} (h : Rn w g cap l) (i : Nat) : w.frozen? ⟨g, i, none⟩ = false := let ⟨_, hc, _⟩ := h; hc.frozen i
theorem Rn.lt {w : World} {g cap : Nat} {l : List Int} (h : Rn w g cap l) : g < w.heap.size := let ⟨_, hc, _⟩ := h; hc.lt

theorem int_rows : RowTy Try.prog kdI 25 2 := RowTy.of (z := .int .i64 0) (by' := 8) Try.underlying25 (by kernel_rfl) rfl (by decide)
theorem rn_of_ro {w : World} {S : Nat → Prop} {v : Value} {l : List Int} (h : Ro kdI 2 w S v l) (hv : v ≠ .slice none 0 0) (hl : l.length ≤ 4294967296) : ∃ g cap, v = .slice (some ⟨g, 0, none⟩) l.length cap ∧ Rn w g cap l ∧ cap ≤ maxLen ∧ S g := by
  obtain ⟨ts, h1, h2, h3, h4⟩ := h
  have ht : ts = l := by rw [← h1]; exact (List.map_id ts).symm
  subst ht
  rcases h2.2 with ⟨h5, _⟩ | ⟨g, cap, cur, rfl, _, hg, hn, hm, hs, hc⟩
  · exact absurd h5 hv
  · refine ⟨g, cap, rfl, ⟨cur.toList.drop (ts.length * kdI.sz), ?_, hl, hn⟩, hm, h4 g rfl⟩
    unfold Cel
    rw [← kdI_cells, ← hc, List.take_append_drop]
    simpa using hg

theorem nlist_append_run {P : Program} {ops : Array Oper} {rest : List Oper} {o : Oper} {a : Act} {w w' : World} {Q : Exit → Act → World → Prop} {v x v' : Value} (hgd : o.guard = none) (sl xl : Operand) (ty : TypeId)
    (ho : o.op = .call { callee := .builtin .append, args := #[sl, xl], argTypes := #[ty, ty] }) (hs : a.eval sl = v) (hx : a.eval xl = x)
    (hr : (Builtin.append_ #[ty, ty] o.type #[v, x]).run P w = .ok v' w') (h : wpList P ops Q rest (a.put o.dst v') w') : wpList P ops Q (o :: rest) a w := by
  refine wpList_plain hgd fun _ hK => ?_
  unfold Oper.wp execOp
  simp only [ho, resolve, invoke, builtin, Sem.run_bind, Sem.run_pure, Result.andThen_ok, List.map_toArray, List.map_cons, List.map_nil, hs, hx, hr]
  exact hK _ _ h

theorem copied_any (l : List Int) (w : World) {v : Value} (hl : Fs w v l) (hn : l.length ≤ 2000) : Calls Try.prog 12 #[v] w fun e w' => ∃ g cap, e = .returned (.slice (some ⟨g, 0, none⟩) l.length cap) ∧ Rn w' g cap l ∧ cap ≤ maxLen ∧ w.heap.size ≤ g ∧ Below w.heap.size w w' := by
  obtain ⟨va, vc, rfl, -, -⟩ := hl.shape
  have hA : Below w.heap.size w (w.alloc (.cells #[] 2)) := (Below.refl _ _).alloc (Nat.le_refl _) _
  have ho : Ro kdI 2 (w.alloc (.cells #[] 2)) (fun q => w.heap.size ≤ q) (.slice (some ⟨w.heap.size, 0, none⟩) 0 0) [] :=
    ⟨[], rfl, ⟨rfl, .inr ⟨w.heap.size, 0, #[], rfl, Nat.zero_le _, by have := World.alloc_heap_new w (.cells #[] 2); exact this, Nat.le_refl _, Nat.zero_le _, rfl, rfl⟩⟩, (fun _ h => by cases h), fun q hq => by cases hq; exact Nat.le_refl _⟩
  have hx : Rd kdI (w.alloc (.cells #[] 2)) (fun q => w.heap.size ≤ q) (.slice va l.length vc) l := (hl.old (Nat.le_refl _)).only (Only.of_below hA _)
  obtain ⟨v', w', hr, o', hst, hg, hloc⟩ := run_append_ro int_rows 25 ho hx (by simp; omega)
  have hne : v' ≠ .slice none 0 0 := by
    rintro rfl
    rcases hloc with h | h <;> cases h
  have hb : Below w.heap.size w w' := hA.grown hg (by simp) (fun k e => by cases e; exact Nat.le_refl _)
  simp only [List.nil_append] at o'
  obtain ⟨g, cap, rfl, hrn, hcm, hgS⟩ := rn_of_ro o' hne (by omega)
  have hgw : w.heap.size ≤ g := by
    rcases hloc with h | h
    · cases h; exact Nat.le_refl _
    · simp only [Value.ownBlock, Option.some.injEq, World.size_alloc] at h; omega
  have HX := Lib.hid (And.intro hrn (And.intro hcm (And.intro hgw hb)))
  clear ho hx o' hst hg hloc hne hb hrn hcm hgw hgS hA hl hn
  go_enter Try.func12, Try.ntmps12
  go_wp2_with (at_builtin; refine nlist_append_run rfl (.tmp 3) (.tmp 4) _ rfl rfl rfl hr ?_)
  go_wp2
  go_ret
  exact ⟨_, _, rfl, HX.out⟩
end Go.Proofs.Ytmdjgkclbjbdiaa
