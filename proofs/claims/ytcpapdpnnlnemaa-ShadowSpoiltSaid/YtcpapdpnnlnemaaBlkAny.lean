/- Contracts of package block for whatever comes in; own rows and what stays of a slice; no condition. -/
import Derived.Test.YtcpapdpnnlnemaaBlkOpen
import Derived.Test.YtcpapdpnnlnemaaFoot
namespace Go.Proofs.Ytcpapdpnnlnemaa
open Go.RowKit

/-- What Seal answers: the bytes, the error. -/
def sealV (k : UInt8) (l : List UInt8) : List UInt8 × Int := if k = 0 then ([], 1) else if 505 < l.length then ([], 6) else (sealL k l, 0)
def Seals (w : World) (k : UInt8) (l : List UInt8) (e : Ending) (w' : World) : Prop :=
  ∃ v t, e = .returned (.tuple #[v, .int .i64 (sealV k l).2]) ∧ Ow w' w.heap.size t v (sealV k l).1 ∧ Below w.heap.size w w'

theorem blkSeal_any {b : Value} {l : List UInt8} (k : UInt8) (w : World) (hb : Bs w b l) : Calls Try.prog 27 #[.int .u8 (k.toNat : Int), b] w (Seals w k l) := by
  unfold Seals sealV
  by_cases h0 : k = 0
  · subst h0
    rw [if_pos rfl]
    refine (blkSeal_zero w hb).mono ?_
    rintro e w1 ⟨rfl, rfl⟩
    exact ⟨_, 5, rfl, World.ownsRow_nil _ _ _ _, Below.refl _ _⟩
  · rw [if_neg h0]
    by_cases hl : 505 < l.length
    · rw [if_pos hl]
      refine (blkSeal_many k w hb h0 hl).mono ?_
      rintro e w1 ⟨rfl, rfl⟩
      exact ⟨_, 5, rfl, World.ownsRow_nil _ _ _ _, Below.refl _ _⟩
    · rw [if_neg hl]
      refine (blkSeal_ok k w hb h0 (by omega)).mono ?_
      rintro e w1 ⟨v, he, ho, hbl⟩
      exact ⟨v, _, he, ho, hbl⟩

/-- An own row's block. -/
theorem Ow.own {w : World} {base : Nat} {e : TypeId} {v : Value} {l : List UInt8} (h : Ow w base e v l) {q : Nat} (hq : v.ownBlock = some q) : base ≤ q ∧ q < w.heap.size := World.ownsRow.lt h q hq

/-- A slice whose cells lie in one world lies below that world's end. -/
theorem Bs.old {w : World} {v : Value} {l : List UInt8} (h : Bs w v l) (hne : 0 < l.length) {q : Nat} (hq : v.ownBlock = some q) : q < w.heap.size := by
  obtain ⟨b, o, cap, rfl, _, hb, _⟩ := h.open hne
  cases hq
  exact hb

/-- What is turned is own: all else stays. -/
theorem Bs.turned {w w0 w' : World} {v x : Value} {l : List UInt8} (h : Bs w v l) (h0 : Bs w0 v l) (ho : Only (fun k => x.ownBlock = some k) w w') (hx : ∀ q, x.ownBlock = some q → w0.heap.size ≤ q) : Bs w' v l := by
  rcases Nat.eq_zero_or_pos l.length with hl | hl
  · obtain rfl : l = [] := List.eq_nil_of_length_eq_zero hl
    obtain ⟨a, cap, rfl, h1, h2, h3, h4⟩ := h
    exact ⟨a, cap, rfl, h1, h2, h3, fun ad _ i u hu => by simp [bvs] at hu⟩
  · exact h.only ho fun q hq hs => by
      have h1 := h0.old hl hq
      have h2 := hx q hs
      omega
end Go.Proofs.Ytcpapdpnnlnemaa
