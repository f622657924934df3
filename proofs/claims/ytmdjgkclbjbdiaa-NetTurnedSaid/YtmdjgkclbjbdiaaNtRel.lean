/- Edges and numbers in memory; wide numbers; no condition. -/
import Derived.Test.YtmdjgkclbjbdiaaNtPlain
import Derived.Test.YtmdjgkclbjbdiaaRd
namespace Go.Proofs.Ytmdjgkclbjbdiaa
open Go.RowKit

def edL (e : Ed) : List Value := [.int .i64 e.fr, .int .i64 e.to, .int .i64 e.cap, .int .i64 e.cost]
abbrev edV (e : Ed) : Value := .agg #[.int .i64 e.fr, .int .i64 e.to, .int .i64 e.cap, .int .i64 e.cost]
abbrev netV (n : Int) (v : Value) : Value := .agg #[.int .i64 n, v]
abbrev wideV (x : Nat) : Value := .agg #[.int .u64 ((x / 18446744073709551616 : Nat) : Int), .int .u64 ((x % 18446744073709551616 : Nat) : Int)]
abbrev wideL (x : Nat) : List Value := [.int .u64 ((x / 18446744073709551616 : Nat) : Int), .int .u64 ((x % 18446744073709551616 : Nat) : Int)]

def kdEd : Kd Ed Ed where
  sz := 4
  pos := by decide
  cs e := edL e
  len _ := rfl
  one e u hu := by
    simp only [edL, List.mem_cons, List.not_mem_nil, or_false] at hu
    rcases hu with rfl | rfl | rfl | rfl <;> rfl
  con e := e
  ok _ _ _ := True
  step _ _ := trivial
def kdI : Kd Int Int where
  sz := 1
  pos := by decide
  cs x := [.int .i64 x]
  len _ := rfl
  one x u hu := by
    simp only [List.mem_cons, List.not_mem_nil, or_false] at hu
    rcases hu with rfl
    rfl
  con x := x
  ok _ _ _ := True
  step _ _ := trivial

abbrev Es (w : World) (v : Value) (es : List Ed) : Prop := Rd kdEd w (fun _ => False) v es
abbrev Fs (w : World) (v : Value) (l : List Int) : Prop := Rd kdI w (fun _ => False) v l

variable {τ α : Type} {K : Kd τ α} {w w' : World} {S : Nat → Prop} {v : Value} {l : List α}
theorem Rd.below (h : Rd K w (fun _ => False) v l) (hb : Below w.heap.size w w') : Rd K w' (fun _ => False) v l := h.step (Step.of_below hb _)
/-- Outside of what is new. -/
theorem Rd.old (h : Rd K w (fun _ => False) v l) {n : Nat} (hn : w.heap.size ≤ n) : Rd K w (fun q => n ≤ q) v l := by
  obtain ⟨ts, h1, h2, h3, h4⟩ := h
  refine ⟨ts, h1, h2, fun t ht => K.step (h3 t ht) (S := fun _ => False) ⟨Only.refl _ _, fun q hq => .inr (Nat.le_trans hn hq)⟩, fun hl q hq hq' => ?_⟩
  have := h2.in_heap (List.length_pos_iff.2 hl) K.pos hq
  omega
theorem Rd.only (h : Rd K w S v l) (ho : Only S w w') : Rd K w' S v l := h.step ⟨ho, fun _ hq => .inl hq⟩
theorem Rd.free (h : Rd K w S v l) : Rd K w (fun _ => False) v l := h.less fun _ hq => hq.elim
theorem es_at {es : List Ed} {i : Nat} {e : Ed} (h : Rd kdEd w S v es) (he : es[i]? = some e) : ∃ g o cap, v = .slice (some ⟨g, o, none⟩) es.length cap ∧ g < w.heap.size ∧ w.cell? ⟨g, o + i * 4, none⟩ = some (.int .i64 e.fr) ∧ w.cell? ⟨g, o + i * 4 + 1, none⟩ = some (.int .i64 e.to) ∧
    w.cell? ⟨g, o + i * 4 + 2, none⟩ = some (.int .i64 e.cap) ∧ w.cell? ⟨g, o + i * 4 + 3, none⟩ = some (.int .i64 e.cost) := by
  obtain ⟨g, o, cap, t, rfl, rfl, _, hg, hc, _⟩ := h.at he
  exact ⟨g, o, cap, rfl, hg, hc 0 _ rfl, hc 1 _ rfl, hc 2 _ rfl, hc 3 _ rfl⟩
theorem fs_at {l : List Int} {i : Nat} {x : Int} (h : Rd kdI w S v l) (he : l[i]? = some x) : ∃ g o cap, v = .slice (some ⟨g, o, none⟩) l.length cap ∧ g < w.heap.size ∧ w.cell? ⟨g, o + i, none⟩ = some (.int .i64 x) := by
  obtain ⟨g, o, cap, t, rfl, rfl, _, hg, hc, _⟩ := h.at he
  have := hc 0 _ rfl
  simp only [kdI, Nat.mul_one, Nat.add_zero] at this
  exact ⟨g, o, cap, rfl, hg, this⟩
end Go.Proofs.Ytmdjgkclbjbdiaa
