/- A row of numbers of the statement's own that grows; four nets that stand; what is over, and costs, of nets turned round or moved; no condition. -/
import Derived.Test.YtmdjgkclbjbdiaaNtGrow
import Derived.Test.YtmdjgkclbjbdiaaNtTurnP
namespace Go.Proofs.Ytmdjgkclbjbdiaa
open Go.RowKit

/-- A row of numbers of the walk's own, begun at world B. -/
def OI (B : World) (v : Value) (l : List Int) (W : World) : Prop := Ro kdI 2 W (fun q => v.ownBlock = some q) v l ∧ (∀ q, v.ownBlock = some q → B.heap.size ≤ q) ∧ Below B.heap.size B W
theorem OI.start (B : World) : OI B (.slice none 0 0) [] B := ⟨Ro.nil _ _ _ _, (fun q h => by cases h), Below.refl _ _⟩
theorem OI.fs {B W : World} {v : Value} {l : List Int} (h : OI B v l W) : Fs W v l := h.1.rd (fun _ h => h.elim) (fun _ _ h => h)
theorem OI.more {B W : World} {v : Value} {l : List Int} (h : OI B v l W) (y : Int) (hl : l.length ≤ 100000) : ∃ v' w', (Builtin.append_ #[25, 25] 25 #[v, .slice (some ⟨W.heap.size, 0, none⟩) 1 1]).run Try.prog (W.alloc (.cells #[.int .i64 y] 2)) = .ok v' w' ∧ OI B v' (l ++ [y]) w' := by
  obtain ⟨h1, h2, h3⟩ := h
  have hA : Below W.heap.size W (W.alloc (.cells #[.int .i64 y] 2)) := (Below.refl _ _).alloc (Nat.le_refl _) _
  have hx := rd_lit kdI W 2 (fun q => v.ownBlock = some q) (fun q hq => h1.own hq) [y] #[.int .i64 y] rfl (fun _ _ => trivial) (by simp) (n := 1) rfl
  obtain ⟨v', w', hr, o', hst, hg, hloc⟩ := run_append_ro int_rows 25 (h1.below hA) hx (by simp; omega)
  refine ⟨v', w', hr, ?_, ?_, ?_⟩
  · obtain ⟨ts, k1, k2, k3, k4⟩ := o'
    exact ⟨ts, by simpa [kdI] using k1, k2, fun _ _ => trivial, fun q hq => hq⟩
  · intro q hq
    rcases hloc with e | e
    · exact h2 q (e ▸ hq)
    · rw [e, World.size_alloc] at hq
      cases hq
      have := h3.size
      omega
  · exact (h3.trans (hA.mono h3.size)).grown hg (by have := h3.size; simp; omega) (fun k e => h2 k e)

/-- What stands behind both loops. -/
def TS (w : World) (d : Nat) (n : Int) (v v1 v2 v3 : Value) (es r1 r2 r3 : List Ed) (fls : List (Value × List Int)) (W : World) : Prop := NQ w w.heap.size n v es fls W ∧ NQ w d n v1 r1 [] W ∧ NQ w (d + 1) n v2 r2 [] W ∧ NQ w (d + 1 + 1) n v3 r3 [] W
theorem TS.go {w : World} {d : Nat} {n : Int} {v v1 v2 v3 : Value} {es r1 r2 r3 : List Ed} {fls : List (Value × List Int)} {W W' : World} (h : TS w d n v v1 v2 v3 es r1 r2 r3 fls W) (hb : Below W.heap.size W W') : TS w d n v v1 v2 v3 es r1 r2 r3 fls W' := ⟨h.1.go hb, h.2.1.go hb, h.2.2.1.go hb, h.2.2.2.go hb⟩
theorem NG.ts {w W : World} {n : Int} {v v1 v2 v3 : Value} {es r1 r2 r3 : List Ed} {fls : List (Value × List Int)} {d : Nat} (h : NG w n v es fls (d + 1 + 1) [(d, v1, r1), (d + 1, v2, r2), (d + 1 + 1, v3, r3)] W) : TS w d n v v1 v2 v3 es r1 r2 r3 fls W := by
  have key : ∀ r ∈ [(d, v1, r1), (d + 1, v2, r2), (d + 1 + 1, v3, r3)], NQ w r.1 n r.2.1 r.2.2 [] W := fun r hr =>
    ⟨h.q.under, (h.cel r hr).1, (h.lot.1 (r.2.1, r.2.2) (List.mem_map.2 ⟨r, hr, rfl⟩)).rd (fun _ h => h.elim) (fun _ _ h => h), fun _ h => by cases h⟩
  exact ⟨h.q, key (d, v1, r1) (by simp), key (d + 1, v2, r2) (by simp), key (d + 1 + 1, v3, r3) (by simp)⟩

theorem mod_facts {i k m u : Nat} (hm : 1 ≤ m) (hi : i ≤ 1000) (hk : k < 256) (hu : u = (((i : Int) + (k : Int)) % (m : Int)).toNat) : wrap64 ((i : Int) + (k : Int)) = (i : Int) + (k : Int) ∧ Int.tmod ((i : Int) + (k : Int)) (m : Int) = (u : Int) ∧ Int.tmod (wrap64 ((i : Int) + (k : Int))) (m : Int) = (u : Int) ∧ (u : Int) < (m : Int) ∧ (0 : Int) ≤ (u : Int) := by
  have h0 : wrap64 ((i : Int) + (k : Int)) = (i : Int) + (k : Int) := by unfold wrap64; omega
  have h1 := Int.emod_nonneg ((i : Int) + (k : Int)) (show (m : Int) ≠ 0 by omega)
  have h2 := Int.emod_lt_of_pos ((i : Int) + (k : Int)) (show (0 : Int) < (m : Int) by omega)
  have h3 : Int.tmod ((i : Int) + (k : Int)) (m : Int) = (u : Int) := by
    rw [Int.tmod_eq_emod_of_nonneg (by omega), hu, Int.toNat_of_nonneg h1]
  refine ⟨h0, h3, by rw [h0]; exact h3, ?_, by omega⟩
  rw [hu, Int.toNat_of_nonneg h1]
  exact h2
section
variable {n : Int} {es : List Ed} {l : List Int}
theorem right_mv {k : Nat} (hk : k < 256) : RightP n (es.map (mvE n k)) ↔ RightP n es := right_map (mv_keeps n k) (fun h1 h2 e => mv_perm hk h1 h2 e) es
theorem right_bk : RightP n (es.map bkE) ↔ RightP n es := right_map bk_keeps (fun _ _ e => bk_perm n e) es
theorem within_mv {k : Nat} (hk : k < 256) : WithinP n (es.map (mvE n k)) l ↔ WithinP n es l := within_map (mv_keeps n k) (fun h1 h2 e => mv_perm hk h1 h2 e) es l
theorem within_bk : WithinP n (es.map bkE) l ↔ WithinP n es l := within_map bk_keeps (fun _ _ e => bk_perm n e) es l
theorem cost_mv {k : Nat} (hk : k < 256) : costP n (es.map (mvE n k)) l = costP n es l := cost_map (mv_keeps n k) (fun h1 h2 e => mv_perm hk h1 h2 e) es l
theorem cost_bk : costP n (es.map bkE) l = costP n es l := cost_map bk_keeps (fun _ _ e => bk_perm n e) es l
theorem overP_at (h : WithinP n es l) {i : Nat} (hi : i < n.toNat) : (overP n es l)[i]? = some (ovr (es.zip l) (i : Int)) := by
  unfold overP
  rw [if_pos h]
  exact overL_at hi
theorem overP_len (h : WithinP n es l) : (overP n es l).length = n.toNat := by
  unfold overP
  rw [if_pos h, overL_length]
theorem overP_none (h : ¬ WithinP n es l) : overP n es l = [] := by unfold overP; rw [if_neg h]
theorem bk_at (h : WithinP n es l) {i : Nat} (hi : i < n.toNat) : (overP n (es.map bkE) l)[i]? = some (-ovr (es.zip l) (i : Int)) := by
  rw [overP_at (within_bk.2 h) hi, zip_mapL, bk_over]
theorem mv_at {k : Nat} (hk : k < 256) (h : WithinP n es l) {i : Nat} (hi : i < n.toNat) : (overP n (es.map (mvE n k)) l)[(((i : Int) + (k : Int)) % n).toNat]? = some (ovr (es.zip l) (i : Int)) := by
  have h1 := h.1.1
  have h2 := h.1.2.1
  have h3 := Int.emod_nonneg ((i : Int) + (k : Int)) (show n ≠ 0 by omega)
  have h4 := Int.emod_lt_of_pos ((i : Int) + (k : Int)) (show 0 < n by omega)
  rw [overP_at ((within_mv hk).2 h) (by omega), zip_mapL, Int.toNat_of_nonneg h3]
  rw [mv_over h1 h2 hk (by omega) (fun p hp => h.1.2.2.2.1 _ (List.of_mem_zip hp).1)]
end
end Go.Proofs.Ytmdjgkclbjbdiaa
