/- The statement NetRound: as much around a way that closes, and no more anywhere, flows; with one more on one of its edges it does not, if that leads to another node; no condition. -/
import Derived.Test.YtmdjgkclbjbdiaaNtRing
import Derived.Test.YtmdjgkclbjbdiaaNtRefC
namespace Go.Proofs.Ytmdjgkclbjbdiaa
open Go.RowKit

theorem ro_to {τ α : Type} {K : Kd τ α} (hk : ∀ w S t, K.ok w S t) {e : TypeId} {w : World} {S S' : Nat → Prop} {v : Value} {l : List α} (h : Ro K e w S v l) (hS : ∀ q, v.ownBlock = some q → S' q) : Ro K e w S' v l := by
  obtain ⟨ts, h1, h2, _, _⟩ := h
  exact ⟨ts, h1, h2, fun t _ => hk _ _ t, hS⟩
theorem ro_keep {τ α : Type} {K : Kd τ α} (hk : ∀ w S t, K.ok w S t) {e : TypeId} {w w' : World} {S : Nat → Prop} {v : Value} {l : List α} (h : Ro K e w S v l) (hh : ∀ g, v.ownBlock = some g → w'.heap[g]? = w.heap[g]?) : Ro K e w' S v l := by
  obtain ⟨ts, h1, h2, _, h4⟩ := h
  exact ⟨ts, h1, ownsRow_kept h2 hh, fun t _ => hk _ _ t, h4⟩
theorem okE : ∀ w S t, kdEd.ok w S t := fun _ _ _ => trivial
theorem okI : ∀ w S t, kdI.ok w S t := fun _ _ _ => trivial

/-- What stands while the net grows. -/
structure NR (w : World) (ns : List Nat) (b ke kf : Nat) (ev fv : Value) (W : World) : Prop where
  under : Below w.heap.size w W
  cel : Cel W w.heap.size [.int .i64 40, ev] 24
  re : Ro kdEd 39 W (fun q => w.heap.size < q) ev (rgEs ns b ke)
  rf : Ro kdI 2 W (fun q => w.heap.size < q) fv (rgF b kf)
  apart : ∀ q, ev.ownBlock = some q → fv.ownBlock ≠ some q
section
variable {w W W' : World} {ns : List Nat} {b ke kf : Nat} {ev fv : Value}
theorem NR.go (h : NR w ns b ke kf ev fv W) (hb : Below W.heap.size W W') : NR w ns b ke kf ev fv W' :=
  ⟨h.under.trans (hb.mono h.under.size), h.cel.below hb h.cel.lt, ro_keep okE h.re fun g hg => hb.block g (h.re.own hg), ro_keep okI h.rf fun g hg => hb.block g (h.rf.own hg), h.apart⟩
/-- One edge more. -/
theorem NR.edge (h : NR w ns b ke kf ev fv W) {e : Ed} (he : e = rgE ns b ke) (hk : ke ≤ 40) : ∃ v' w', (Builtin.append_ #[22, 22] 22 #[ev, .slice (some ⟨W.heap.size, 0, none⟩) 1 1]).run Try.prog (W.alloc (.cells #[.int .i64 e.fr, .int .i64 e.to, .int .i64 e.cap, .int .i64 e.cost] 39)) = .ok v' w' ∧
    (∃ a n c, v' = .slice a n c) ∧ Below w.heap.size w w' ∧ Cel w' w.heap.size [.int .i64 40, ev] 24 ∧ NR w ns b (ke + 1) kf v' fv (w'.setCell ⟨w.heap.size, 1, none⟩ v') := by
  have hA := (Below.refl W.heap.size W).alloc (Nat.le_refl _) (.cells #[.int .i64 e.fr, .int .i64 e.to, .int .i64 e.cap, .int .i64 e.cost] 39)
  have h2 := h.go hA
  have hx := rd_lit kdEd W 39 (fun q => ev.ownBlock = some q) (fun q hq => h.re.own hq) [e] #[.int .i64 e.fr, .int .i64 e.to, .int .i64 e.cap, .int .i64 e.cost] rfl (fun _ _ => trivial) (by simp) (n := 1) rfl
  obtain ⟨v', w', hr, o', _, hg, hloc⟩ := run_append_ro edge_rows 22 (ro_to okE h2.re (S' := fun q => ev.ownBlock = some q) (fun _ hq => hq)) hx (by rw [rgEs_length]; simp; omega)
  have hvl : ∀ q, v'.ownBlock = some q → ev.ownBlock = some q ∨ q = W.heap.size + 1 := fun q hq => by
    rcases hloc with hl | hl
    · left; rw [← hl]; exact hq
    · rw [hl] at hq; simp only [World.size_alloc, Option.some.injEq] at hq; right; exact hq.symm
  have hcne : ev.ownBlock ≠ some w.heap.size := fun e => by have := h.re.inS e; omega
  have hb' : Below w.heap.size w w' := h2.under.grown hg h2.under.size (fun k e => by have := h2.re.inS e; omega)
  have hc' : Cel w' w.heap.size [.int .i64 40, ev] 24 := h2.cel.kept (hg.block _ h2.cel.lt (fun e => hcne e.symm))
  have hws : w.heap.size < W.heap.size := h.cel.lt
  have ho2 : Ro kdEd 39 w' (fun q => w.heap.size < q) v' (rgEs ns b (ke + 1)) := by
    rw [rgEs_more, ← he]
    refine ro_to okE o' fun q hq => ?_
    rcases hvl q hq with h1 | h1
    · exact h.re.inS h1
    · omega
  have hf2 : Ro kdI 2 w' (fun q => w.heap.size < q) fv (rgF b kf) := ro_keep okI h2.rf fun g hgg => hg.block g (h2.rf.own hgg) (fun e => h.apart g e.symm hgg)
  obtain ⟨a, c, hv, -, -⟩ := o'.shape
  refine ⟨v', w', hr, ⟨a, _, c, hv⟩, hb', hc', hb'.setCell (Nat.le_refl _) _, hc'.set 1 v', ro_keep okE ho2 fun g hgg => Below.heap_setCell _ _ _ _ (by have := ho2.inS hgg; simp only; omega), ro_keep okI hf2 fun g hgg => Below.heap_setCell _ _ _ _ (by have := hf2.inS hgg; simp only; omega), fun q hq hq2 => ?_⟩
  rcases hvl q hq with h1 | h1
  · exact h.apart q h1 hq2
  · have := h.rf.own hq2; omega
/-- One number more. -/
theorem NR.num (h : NR w ns b ke kf ev fv W) (hk : kf ≤ 40) : ∃ v' w', (Builtin.append_ #[25, 25] 25 #[fv, .slice (some ⟨W.heap.size, 0, none⟩) 1 1]).run Try.prog (W.alloc (.cells #[.int .i64 (b : Int)] 2)) = .ok v' w' ∧ NR w ns b ke (kf + 1) ev v' w' := by
  have hA := (Below.refl W.heap.size W).alloc (Nat.le_refl _) (.cells #[.int .i64 (b : Int)] 2)
  have h2 := h.go hA
  have hx := rd_lit kdI W 2 (fun q => fv.ownBlock = some q) (fun q hq => h.rf.own hq) [(b : Int)] #[.int .i64 (b : Int)] rfl (fun _ _ => trivial) (by simp) (n := 1) rfl
  obtain ⟨v', w', hr, o', _, hg, hloc⟩ := run_append_ro int_rows 25 (ro_to okI h2.rf (S' := fun q => fv.ownBlock = some q) (fun _ hq => hq)) hx (by simp [rgF]; omega)
  have hvl : ∀ q, v'.ownBlock = some q → fv.ownBlock = some q ∨ q = W.heap.size + 1 := fun q hq => by
    rcases hloc with hl | hl
    · left; rw [← hl]; exact hq
    · rw [hl] at hq; simp only [World.size_alloc, Option.some.injEq] at hq; right; exact hq.symm
  have hcne : fv.ownBlock ≠ some w.heap.size := fun e => by have := h.rf.inS e; omega
  have hws : w.heap.size < W.heap.size := h.cel.lt
  refine ⟨v', w', hr, h2.under.grown hg h2.under.size (fun k e => by have := h2.rf.inS e; omega), h2.cel.kept (hg.block _ h2.cel.lt (fun e => hcne e.symm)), ro_keep okE h2.re fun g hgg => hg.block g (h2.re.own hgg) (fun e => h.apart g hgg e.symm), ?_, fun q hq hq2 => ?_⟩
  · rw [rgF_more]
    refine ro_to okI o' fun q hq => ?_
    rcases hvl q hq with h1 | h1
    · exact h.rf.inS h1
    · omega
  · rcases hvl q hq2 with h1 | h1
    · exact h.apart q hq h1
    · have := h.re.own hq; omega
end
end Go.Proofs.Ytmdjgkclbjbdiaa
