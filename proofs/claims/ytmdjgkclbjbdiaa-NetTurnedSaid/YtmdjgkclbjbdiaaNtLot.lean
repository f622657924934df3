/- Several own rows of one kind beside each other, each in a block of its own, any of which grows; no condition. -/
import Derived.Test.YtmdjgkclbjbdiaaNtRing2
namespace Go.Proofs.Ytmdjgkclbjbdiaa
open Go.RowKit

section
variable {τ α : Type} {K : Kd τ α} {e t : TypeId} {b : Nat} {rs rs' : List (Value × List α)} {W W' : World}
/-- Each is an own row beyond block b; no two of them in one block. -/
def Lot (K : Kd τ α) (e : TypeId) (b : Nat) (rs : List (Value × List α)) (W : World) : Prop :=
  (∀ p ∈ rs, Ro K e W (fun q => b < q) p.1 p.2) ∧ rs.Pairwise (fun p q => ∀ x, p.1.ownBlock = some x → q.1.ownBlock ≠ some x)
theorem Lot.at (h : Lot K e b rs W) {p : Value × List α} (hp : p ∈ rs) : Ro K e W (fun q => b < q) p.1 p.2 := h.1 p hp
theorem Lot.keep (hk : ∀ w S t, K.ok w S t) (h : Lot K e b rs W) (hh : ∀ p ∈ rs, ∀ g, p.1.ownBlock = some g → W'.heap[g]? = W.heap[g]?) : Lot K e b rs W' := ⟨fun p hp => ro_keep hk (h.1 p hp) (hh p hp), h.2⟩
theorem Lot.below (hk : ∀ w S t, K.ok w S t) (h : Lot K e b rs W) (hb : Below W.heap.size W W') : Lot K e b rs W' := h.keep hk fun p hp g hg => hb.block g ((h.1 p hp).own hg)
theorem Lot.perm (h : Lot K e b rs W) (hp : rs.Perm rs') : Lot K e b rs' W := by
  refine ⟨fun p hq => h.1 p (hp.mem_iff.2 hq), (hp.pairwise_iff ?_).1 h.2⟩
  intro p q hh x hx hy
  exact hh x hy hx
theorem Lot.nil (W : World) (n : Nat) : Lot K e b (List.replicate n (.slice none 0 0, [])) W := by
  refine ⟨fun p hp => ?_, ?_⟩
  · rw [List.eq_of_mem_replicate hp]
    exact Ro.nil _ _ _ _
  · refine List.pairwise_replicate.2 (.inr fun x hx => ?_)
    cases hx
/-- The first one grows. -/
theorem Lot.more (T : RowTy Try.prog K t e) (hk : ∀ w S t, K.ok w S t) {ev : Value} {l : List α} (h : Lot K e b ((ev, l) :: rs) W) (hbW : b < W.heap.size) (x : τ) (cs : Array Value) (hcs : cs = (K.cells [x]).toArray) (hl : l.length ≤ 100000) :
    ∃ v' w', (Builtin.append_ #[t, t] t #[ev, .slice (some ⟨W.heap.size, 0, none⟩) 1 1]).run Try.prog (W.alloc (.cells cs e)) = .ok v' w' ∧ (∃ a n c, v' = .slice a n c) ∧ Lot K e b ((v', l ++ [K.con x]) :: rs) w' ∧ Only (fun q => ev.ownBlock = some q) W w' ∧ (∀ q, v'.ownBlock = some q → ev.ownBlock = some q ∨ q = W.heap.size + 1) := by
  have hA := (Below.refl W.heap.size W).alloc (Nat.le_refl _) (.cells cs e)
  have h2 := h.below hk hA
  have hr0 := h2.1 (ev, l) (by simp)
  have hr00 := h.1 (ev, l) (by simp)
  have hx := rd_lit K W e (fun q => ev.ownBlock = some q) (fun q hq => hr00.own hq) [x] cs hcs (fun _ _ => hk _ _ _) (by simp) (n := 1) rfl
  obtain ⟨v', w', hr, o', _, hg, hloc⟩ := run_append_ro T t (ro_to hk hr0 (S' := fun q => ev.ownBlock = some q) (fun _ hq => hq)) hx (by simp; omega)
  have hvl : ∀ q, v'.ownBlock = some q → ev.ownBlock = some q ∨ q = W.heap.size + 1 := fun q hq => by
    rcases hloc with hl | hl
    · left; rw [← hl]; exact hq
    · rw [hl] at hq; simp only [World.size_alloc, Option.some.injEq] at hq; right; exact hq.symm
  obtain ⟨a, c, hv, -, -⟩ := o'.shape
  have hpw := List.pairwise_cons.1 h.2
  refine ⟨v', w', hr, ⟨a, _, c, hv⟩, ⟨fun p hp => ?_, List.pairwise_cons.2 ⟨fun q hq y hy hy2 => ?_, hpw.2⟩⟩, ?_, hvl⟩
  · rcases List.mem_cons.1 hp with rfl | hp
    · refine ro_to hk o' fun q hq => ?_
      rcases hvl q hq with h1 | h1
      · exact hr00.inS h1
      · omega
    · refine ro_keep hk (h2.1 p (List.mem_cons_of_mem _ hp)) fun g hgg => hg.block g ((h2.1 p (List.mem_cons_of_mem _ hp)).own hgg) fun e => hpw.1 p hp g e.symm hgg
  · rcases hvl y hy with h1 | h1
    · exact hpw.1 q hq y h1 hy2
    · have := (h.1 q (List.mem_cons_of_mem _ hq)).own hy2
      omega
  · exact (Only.of_below hA _).grown hg (fun k e => .inl e)
end
end Go.Proofs.Ytmdjgkclbjbdiaa
