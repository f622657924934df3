/- The helper of the statements of layer 4 that turns all bytes of an own row: it writes nothing but that row; no condition. -/
import Derived.Test.YtnhpdpplkjfjhaaBlkWorks
import Derived.Test.YtnhpdpplkjfjhaaFoot
namespace Go.Proofs.Ytnhpdpplkjfjhaa
open Go.RowKit

theorem xor_val (x : UInt8) : Value.int .u8 (bits .xor .u8 (x.toNat : Int) 44) = bv (UInt8.ofNat (x.toNat ^^^ 44)) := by
  have h2 : x.toNat ^^^ 44 < 256 := Nat.xor_lt_two_pow (n := 8) x.toNat_lt (by decide)
  have := u8_xor_nat x.toNat 44 x.toNat_lt (by decide)
  rw [show ((44 : Nat) : Int) = 44 from rfl] at this
  rw [this]
  unfold bv
  rw [UInt8.toNat_ofNat', Nat.mod_eq_of_lt h2]

set_option maxHeartbeats 400000 in
theorem turned_any {v : Value} {l : List UInt8} (base : Nat) (w : World) (ho : Ow w base 5 v l) (hm : l.length ≤ 1073741824) :
    Calls Try.prog 10 #[v] w fun e w' => e = .returned (.tuple #[]) ∧ Only (fun k => v.ownBlock = some k) w w' := by
  obtain ⟨a, cap, hv, -⟩ := ho.bs.shape
  go_enter Try.func10, Try.ntmps10
  go_wp2
  go_loopw [2] (fun i wr => ∃ r : Nat, r ≤ l.length ∧ i = .int .i64 r ∧ ∃ m, m.length = l.length ∧ Ow wr base 5 v m ∧ Only (fun k => v.ownBlock = some k) w wr) (fun i _ => l.length - (intOf i).toNat)
  case atStart => exact ⟨0, by omega, rfl, l, rfl, ho, Only.refl _ _⟩
  case round =>
    obtain ⟨r, hr, rfl, m, hml, om, hon⟩ := hrel
    by_cases hlt : r < l.length
    · obtain ⟨g, c, hgv, hbg⟩ := om.form (by omega)
      have hH := Lib.hid hml
      rw [hml] at hgv
      subst hgv
      have hat := om.at r (by omega)
      obtain ⟨y, hy⟩ : ∃ y, m[r]? = some y := ⟨_, List.getElem?_eq_getElem (by omega)⟩
      have hyy : m[r]'(by omega) = y := by rw [List.getElem?_eq_getElem (by omega)] at hy; exact Option.some.inj hy
      have c4 : wr.cell? ⟨g, r, none⟩ = some (.int .u8 (y.toNat : Int)) := by rw [hat.1, hyy]; rfl
      have c5 := hat.2.1
      clear hat hyy hy hml hv
      go_wp2
      go_roundw
      case rel =>
        refine ⟨r + 1, by omega, by go_num, m.set r (UInt8.ofNat (y.toNat ^^^ 44)), by rw [List.length_set]; exact hH.out, ?_, hon.setCell (p := ⟨g, r, none⟩) (.inl rfl) _⟩
        rw [xor_val]
        exact om.set r _
      case measure => simp [intOf]; omega
    · obtain rfl : r = l.length := by omega
      subst hv
      clear hml
      go_wp2
      exact ⟨rfl, .tuple #[], by kernel_rfl, rfl, hon⟩

/-- What Seal answers: the bytes, the error. -/
def sealV (k : UInt8) (l : List UInt8) : List UInt8 × Int := if k = 0 then ([], 1) else if 505 < l.length then ([], 6) else (sealL k l, 0)
def Seals (w : World) (k : UInt8) (l : List UInt8) (e : Ending) (w' : World) : Prop :=
  ∃ v t, e = .returned (.tuple #[v, .int .i64 (sealV k l).2]) ∧ Ow w' w.heap.size t v (sealV k l).1 ∧ Below w.heap.size w w'

theorem blkSeal_any {b : Value} {l : List UInt8} (k : UInt8) (w : World) (hb : Bs w b l) : Calls Try.prog 9 #[.int .u8 (k.toNat : Int), b] w (Seals w k l) := by
  unfold Seals sealV
  by_cases h0 : k = 0
  · subst h0
    rw [if_pos rfl]
    refine (blkSeal_zero w hb).mono ?_
    rintro e w1 ⟨rfl, rfl⟩
    exact ⟨_, 5, rfl, World.ownsRow_nil _ _ _ _, Below.refl _ _⟩
  · rw [if_neg h0]
    by_cases hl : 505 < l.length
    · rw [if_pos hl]
      refine (blkSeal_many k w hb h0 hl).mono ?_
      rintro e w1 ⟨rfl, rfl⟩
      exact ⟨_, 5, rfl, World.ownsRow_nil _ _ _ _, Below.refl _ _⟩
    · rw [if_neg hl]
      refine (blkSeal_ok k w hb h0 (by omega)).mono ?_
      rintro e w1 ⟨v, he, ho, hbl⟩
      exact ⟨v, _, he, ho, hbl⟩

theorem refSeal_any {b : Value} {l : List UInt8} (k : UInt8) (w : World) (hb : Bs w b l) : Calls Try.prog 11 #[.int .u8 (k.toNat : Int), b] w (Seals w k l) := by
  unfold Seals sealV
  by_cases h0 : k = 0
  · subst h0
    rw [if_pos rfl]
    refine (refSeal_zero w hb).mono ?_
    rintro e w1 ⟨rfl, rfl⟩
    exact ⟨_, 5, rfl, World.ownsRow_nil _ _ _ _, Below.refl _ _⟩
  · rw [if_neg h0]
    by_cases hl : 505 < l.length
    · rw [if_pos hl]
      refine (refSeal_many k w hb h0 hl).mono ?_
      rintro e w1 ⟨rfl, rfl⟩
      exact ⟨_, 5, rfl, World.ownsRow_nil _ _ _ _, Below.refl _ _⟩
    · rw [if_neg hl]
      refine (refSeal_ok k w hb h0 (by omega)).mono ?_
      rintro e w1 ⟨v, he, ho, hbl⟩
      exact ⟨v, _, he, ho, hbl⟩

/-- An own row's block. -/
theorem Ow.own {w : World} {base : Nat} {e : TypeId} {v : Value} {l : List UInt8} (h : Ow w base e v l) {q : Nat} (hq : v.ownBlock = some q) : base ≤ q ∧ q < w.heap.size := World.ownsRow.lt h q hq

/-- A slice whose cells lie in one world lies below that world's end. -/
theorem Bs.old {w : World} {v : Value} {l : List UInt8} (h : Bs w v l) (hne : 0 < l.length) {q : Nat} (hq : v.ownBlock = some q) : q < w.heap.size := by
  obtain ⟨b, o, cap, rfl, _, hb, _⟩ := h.open hne
  cases hq
  exact hb

/-- What is turned is own: all else stays. -/
theorem Bs.turned {w w0 w' : World} {v x : Value} {l : List UInt8} (h : Bs w v l) (h0 : Bs w0 v l) (ho : Only (fun k => x.ownBlock = some k) w w') (hx : ∀ q, x.ownBlock = some q → w0.heap.size ≤ q) : Bs w' v l := by
  rcases Nat.eq_zero_or_pos l.length with hl | hl
  · obtain rfl : l = [] := List.eq_nil_of_length_eq_zero hl
    obtain ⟨a, cap, rfl, h1, h2, h3, h4⟩ := h
    exact ⟨a, cap, rfl, h1, h2, h3, fun ad _ i u hu => by simp [bvs] at hu⟩
  · exact h.only ho fun q hq hs => by
      have h1 := h0.old hl hq
      have h2 := hx q hs
      omega
end Go.Proofs.Ytnhpdpplkjfjhaa
