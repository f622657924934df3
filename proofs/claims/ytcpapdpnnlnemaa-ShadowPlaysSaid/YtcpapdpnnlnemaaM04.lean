/- Roots in one of two blocks, in plain words: a root's bytes, the root of a block; no condition. · What Save and Load answer and leave, in plain words, and what is found when the power went; no condition. · The small functions of package shadow, as each answers: mayGen, turn, opened; condition: a block of 2^30 bytes at most. · Load of package shadow: what it answers of a device of whatever content; condition: the device lies in memory, or the pointer is nil. · Save of package shadow: what it answers and leaves, whatever stands on the device; condition: the device lies in memory, with fewer than a million things loose in each block, or the pointer is nil. -/
import Derived.Test.YtcpapdpnnlnemaaM02
import Derived.Test.YtcpapdpnnlnemaaM03
import Derived.Test.YtcpapdpnnlnemaaM08
import Derived.Test.YtcpapdpnnlnemaaM10
import Derived.Test.YtcpapdpnnlnemaaM09
namespace Go.Proofs.Ytcpapdpnnlnemaa
open Go.RowKit

/-- A root's bytes. -/
def rootL (g : Nat) (l : Bytes) : Bytes := beL g 8 ++ l
theorem rootL_length (g : Nat) (l : Bytes) : (rootL g l).length = 8 + l.length := by simp [rootL, beL_length]
/-- May it be a generation? -/
def genB (g : Nat) : Bool := decide (1 ≤ g) && decide (g ≤ 4611686018427387904)
theorem genB_iff {g : Nat} : genB g = true ↔ 1 ≤ g ∧ g ≤ 4611686018427387904 := by simp [genB]

/-- The generation that a block's body says. -/
def genOf (b : Bytes) : Nat := beNat ((openV b).2.1.take 8)
def isRoot (k : Nat) (b : Bytes) : Prop := (openV b).2.2 = 0 ∧ (openV b).1 = 1 ∧ 8 ≤ (openV b).2.1.length ∧ genB (genOf b) = true ∧ genOf b % 2 = k ∧ (openV b).2.1.length ≤ 488
instance (k : Nat) (b : Bytes) : Decidable (isRoot k b) := by unfold isRoot; exact inferInstance
/-- The root of the block k, where b stands; 0: none. -/
def rootOf (k : Nat) (b : Bytes) : Nat × Bytes := if isRoot k b then (genOf b, (openV b).2.1.drop 8) else (0, [])

theorem rootOf_yes {k : Nat} {b : Bytes} (h : isRoot k b) : rootOf k b = (genOf b, (openV b).2.1.drop 8) := if_pos h
theorem rootOf_no {k : Nat} {b : Bytes} (h : ¬ isRoot k b) : rootOf k b = (0, []) := if_neg h
theorem rootOf_back {g : Nat} {l : Bytes} (hg : genB g = true) (hl : l.length ≤ 480) : rootOf (g % 2) (sealL 1 (rootL g l)) = (g, l) := by
  have ho : openV (sealL 1 (rootL g l)) = (1, rootL g l, 0) := open_seal (by decide) (by rw [rootL_length]; omega)
  have h8 : (rootL g l).take 8 = beL g 8 := by unfold rootL; exact List.take_left' (beL_length _ _)
  have hgo : genOf (sealL 1 (rootL g l)) = g := by
    unfold genOf
    rw [ho]
    simp only
    rw [h8, beNat_beL]
    have := (genB_iff.1 hg).2
    omega
  have hr : isRoot (g % 2) (sealL 1 (rootL g l)) := by
    unfold isRoot
    rw [hgo, ho]
    simp only
    rw [rootL_length]
    exact ⟨trivial, trivial, by omega, hg, trivial, by omega⟩
  rw [rootOf_yes hr, hgo, ho]
  simp only
  have h8' : (rootL g l).drop 8 = l := by unfold rootL; exact List.drop_left' (beL_length _ _)
  rw [h8']
theorem rootOf_kind {k : Nat} {b : Bytes} (h : b.getD 0 0 = 0) : rootOf k b = (0, []) := by
  refine rootOf_no fun hr => ?_
  have h1 := hr.2.1
  unfold openV at h1
  split at h1
  · split at h1
    · rw [h] at h1
      cases h1
    · cases h1
  · cases h1
theorem rootOf_noughts (k : Nat) : rootOf k noughts = (0, []) := rootOf_kind (by unfold noughts; rfl)
theorem rootOf_spoilt {k : Nat} {b : Bytes} (h : openV b = (0, [], 9)) : rootOf k b = (0, []) := by
  refine rootOf_no fun hr => ?_
  have h1 := hr.1
  rw [h] at h1
  cases h1
theorem rootOf_own (k : Nat) (b : Bytes) : rootOf k b = (0, []) ∨ 1 ≤ (rootOf k b).1 ∧ (rootOf k b).1 ≤ 4611686018427387904 ∧ (rootOf k b).1 % 2 = k ∧ (rootOf k b).2.length ≤ 480 := by
  by_cases h : isRoot k b
  · right
    rw [rootOf_yes h]
    obtain ⟨_, _, h3, h4, h5, h6⟩ := h
    have := genB_iff.1 h4
    exact ⟨this.1, this.2, h5, by simp only [List.length_drop]; omega⟩
  · exact .inl (rootOf_no h)
theorem rootOf_gen (k : Nat) (b : Bytes) : (rootOf k b).1 ≤ 4611686018427387904 := by
  rcases rootOf_own k b with h | h
  · rw [h]; decide
  · exact h.2.1
theorem rootOf_len (k : Nat) (b : Bytes) : (rootOf k b).2.length ≤ 480 := by
  rcases rootOf_own k b with h | h
  · rw [h]; decide
  · exact h.2.2.2
end Go.Proofs.Ytcpapdpnnlnemaa
namespace Go.Proofs.Ytcpapdpnnlnemaa
open Go.RowKit

/-- What stands in a device's block. -/
def stAt (D : Dv) (k : Nat) : Bytes := ((D.bk[k]?).map Bk.stands).getD []
theorem stAt_of {D : Dv} {k : Nat} {x : Bk} (h : D.bk[k]? = some x) : stAt D k = x.stands := by simp [stAt, h]
def best (a b : Nat × Bytes) : Nat × Bytes := if a.1 < b.1 then b else a
/-- What Load answers. -/
def loadV (D : Dv) : Nat × Bytes × Int :=
  if D.on = false then (0, [], 8) else if D.bk.length < 2 then (0, [], 1) else
    if (best (rootOf 0 (stAt D 0)) (rootOf 1 (stAt D 1))).1 = 0 then (0, [], 4) else ((best (rootOf 0 (stAt D 0)) (rootOf 1 (stAt D 1))).1, (best (rootOf 0 (stAt D 0)) (rootOf 1 (stAt D 1))).2, 0)

/-- What Save answers, and leaves. -/
def sealG (g : Nat) (l : Bytes) : Bytes := sealL 1 (rootL g l)
theorem sealG_length {g : Nat} {l : Bytes} (h : l.length ≤ 480) : (sealG g l).length = 512 := sealL_length (by rw [rootL_length]; omega)
def sMay (D : Dv) (g : Nat) : Prop := genB g = true ∧ 2 ≤ D.bk.length
instance (D : Dv) (g : Nat) : Decidable (sMay D g) := by unfold sMay; exact inferInstance
def wroteD (D : Dv) (g : Nat) (l : Bytes) : Dv := wdev D ((g % 2 : Nat) : Int) (sealG g l)
def wroteC (D : Dv) (g : Nat) (l : Bytes) : Int := wcode D ((g % 2 : Nat) : Int) (sealG g l)
def sCode (D : Dv) (g : Nat) (l : Bytes) : Int := if sMay D g then (if 480 < l.length then 6 else if wroteC D g l = 0 then fcode (wroteD D g l) else wroteC D g l) else 1
def sDev (D : Dv) (g : Nat) (l : Bytes) : Dv := if sMay D g then (if 480 < l.length then D else if wroteC D g l = 0 then fdev (wroteD D g l) else wroteD D g l) else D

/-! ### where the power stays -/
theorem wrote_ok {D : Dv} {g : Nat} {l : Bytes} (ho : D.on = true) (hz : D.left ≠ 0) (h2 : 2 ≤ D.bk.length) (hl : l.length ≤ 480) : wroteC D g l = 0 ∧ wroteD D g l = ⟨wrote D.bk (g % 2) (sealG g l), true, spent D.left⟩ := by
  have hn : ¬ noSuch D ((g % 2 : Nat) : Int) (sealG g l) := by
    unfold noSuch
    rw [sealG_length hl]
    omega
  unfold wroteC wroteD wcode wdev
  rw [if_neg (by simp [ho]), if_neg hn, if_neg hz, if_neg (by simp [ho]), if_neg hn, if_neg hz]
  exact ⟨rfl, by rw [ho, Int.toNat_natCast]⟩
theorem wrote_dies {D : Dv} {g : Nat} {l : Bytes} (ho : D.on = true) (hz : D.left = 0) (h2 : 2 ≤ D.bk.length) (hl : l.length ≤ 480) : wroteC D g l = 8 ∧ wroteD D g l = ⟨D.bk, false, D.left⟩ := by
  have hn : ¬ noSuch D ((g % 2 : Nat) : Int) (sealG g l) := by
    unfold noSuch
    rw [sealG_length hl]
    omega
  unfold wroteC wroteD wcode wdev
  rw [if_neg (by simp [ho]), if_neg hn, if_pos hz, if_neg (by simp [ho]), if_neg hn, if_pos hz]
  exact ⟨rfl, rfl⟩
theorem save_ok {D : Dv} {g : Nat} {l : Bytes} (hg : genB g = true) (ho : D.on = true) (hz : D.left ≠ 0 ∧ D.left ≠ 1) (h2 : 2 ≤ D.bk.length) (hl : l.length ≤ 480) :
    sCode D g l = 0 ∧ sDev D g l = ⟨flushed (wrote D.bk (g % 2) (sealG g l)), true, spent (spent D.left)⟩ := by
  obtain ⟨e1, e2⟩ := wrote_ok (g := g) ho hz.1 h2 hl
  have hs : spent D.left ≠ 0 := by unfold spent; split <;> omega
  unfold sCode sDev
  rw [if_pos ⟨hg, h2⟩, if_neg (by omega), if_pos e1, if_pos ⟨hg, h2⟩, if_neg (by omega), if_pos e1, e2]
  unfold fcode fdev
  simp [hs]
theorem save_first {D : Dv} {g : Nat} {l : Bytes} (hg : genB g = true) (ho : D.on = true) (hz : D.left = 0) (h2 : 2 ≤ D.bk.length) (hl : l.length ≤ 480) :
    sCode D g l = 8 ∧ sDev D g l = ⟨D.bk, false, D.left⟩ := by
  obtain ⟨e1, e2⟩ := wrote_dies (g := g) ho hz h2 hl
  unfold sCode sDev
  rw [if_pos ⟨hg, h2⟩, if_neg (by omega), if_neg (by rw [e1]; decide), if_pos ⟨hg, h2⟩, if_neg (by omega), if_neg (by rw [e1]; decide)]
  exact ⟨e1, e2⟩
theorem save_second {D : Dv} {g : Nat} {l : Bytes} (hg : genB g = true) (ho : D.on = true) (hz : D.left = 1) (h2 : 2 ≤ D.bk.length) (hl : l.length ≤ 480) :
    sCode D g l = 8 ∧ sDev D g l = ⟨wrote D.bk (g % 2) (sealG g l), false, 0⟩ := by
  obtain ⟨e1, e2⟩ := wrote_ok (g := g) ho (by omega) h2 hl
  have hs : spent D.left = 0 := by rw [hz]; rfl
  unfold sCode sDev
  rw [if_pos ⟨hg, h2⟩, if_neg (by omega), if_pos e1, if_pos ⟨hg, h2⟩, if_neg (by omega), if_pos e1, e2, hs]
  unfold fcode fdev
  simp
theorem save_not {D : Dv} {g : Nat} {l : Bytes} (h : ¬ sMay D g) : sCode D g l = 1 ∧ sDev D g l = D := ⟨if_neg h, if_neg h⟩
theorem save_many {D : Dv} {g : Nat} {l : Bytes} (h : sMay D g) (hl : 480 < l.length) : sCode D g l = 6 ∧ sDev D g l = D := by
  unfold sCode sDev
  rw [if_pos h, if_pos hl, if_pos h, if_pos hl]
  exact ⟨rfl, rfl⟩

/-! ### the last root, which stands, sure, and no greater one beside it -/
/-- The blocks of a device that has nothing loose, the roots in the first two. -/
def Last2 (a b : Bytes) (g : Nat) (l : Bytes) : Prop := genB g = true ∧ l.length ≤ 480 ∧ ((g % 2 = 0 ∧ a = sealG g l ∧ (rootOf 1 b).1 < g) ∨ (g % 2 = 1 ∧ b = sealG g l ∧ (rootOf 0 a).1 < g))

theorem Last2.best {a b : Bytes} {g : Nat} {l : Bytes} (h : Last2 a b g l) : best (rootOf 0 a) (rootOf 1 b) = (g, l) := by
  obtain ⟨hg, hl, ⟨hp, rfl, hb⟩ | ⟨hp, rfl, hb⟩⟩ := h
  · have e := rootOf_back hg hl
    rw [hp] at e
    unfold Go.Proofs.Ytcpapdpnnlnemaa.best sealG
    rw [e, if_neg (by simp only; omega)]
  · have e := rootOf_back hg hl
    rw [hp] at e
    unfold Go.Proofs.Ytcpapdpnnlnemaa.best sealG
    rw [e, if_pos hb]
theorem Last2.load {a b : Bytes} {g : Nat} {l : Bytes} (h : Last2 a b g l) {D : Dv} (ho : D.on = true) (h2 : 2 ≤ D.bk.length) (ha : stAt D 0 = a) (hb : stAt D 1 = b) : loadV D = (g, l, 0) := by
  unfold loadV
  rw [if_neg (by simp [ho]), if_neg (by omega), ha, hb, h.best, if_neg (by have := (genB_iff.1 h.1).1; simp only; omega)]
theorem Last2.next {a b : Bytes} {g : Nat} {l x : Bytes} (h : Last2 a b g l) (hg : genB (g + 1) = true) (hx : x.length ≤ 480) : Last2 (if (g + 1) % 2 = 0 then sealG (g + 1) x else a) (if (g + 1) % 2 = 0 then b else sealG (g + 1) x) (g + 1) x := by
  obtain ⟨hg0, hl, ⟨hp, rfl, hb⟩ | ⟨hp, rfl, hb⟩⟩ := h
  · have e := rootOf_back hg0 hl
    rw [hp] at e
    have h1 : (g + 1) % 2 = 1 := by omega
    refine ⟨hg, hx, .inr ⟨h1, ?_, ?_⟩⟩
    · rw [if_neg (by omega)]
    · rw [if_neg (by omega)]
      unfold sealG
      rw [e]
      simp only
      omega
  · have e := rootOf_back hg0 hl
    rw [hp] at e
    have h1 : (g + 1) % 2 = 0 := by omega
    refine ⟨hg, hx, .inl ⟨h1, ?_, ?_⟩⟩
    · rw [if_pos h1]
    · rw [if_pos h1]
      unfold sealG
      rw [e]
      simp only
      omega
end Go.Proofs.Ytcpapdpnnlnemaa
namespace Go.Proofs.Ytcpapdpnnlnemaa
open Go.RowKit

theorem mayGen_any (g : Nat) (w : World) (hg : g < 18446744073709551616) : Calls Try.prog 25 #[.int .u64 (g : Int)] w fun e w' => e = .returned (.bool (genB g)) ∧ w = w' := by
  by_cases h1 : 1 ≤ g
  · have h1' : (1 : Int) ≤ (g : Int) := by omega
    by_cases h2 : g ≤ 4611686018427387904
    · have h2' : (g : Int) ≤ 4611686018427387904 := by omega
      rw [genB_iff.2 ⟨h1, h2⟩]
      clear h1 h2
      go_enter Try.func25, Try.ntmps25
      go_wp2
      go_ret
      exact ⟨rfl, rfl⟩
    · have h2' : ¬ (g : Int) ≤ 4611686018427387904 := by omega
      rw [show genB g = false by unfold genB; simp [h2]]
      clear h1 h2
      go_enter Try.func25, Try.ntmps25
      go_wp2
      go_ret
      exact ⟨rfl, rfl⟩
  · have h1' : ¬ (1 : Int) ≤ (g : Int) := by omega
    rw [show genB g = false by unfold genB; simp [h1]]
    clear h1
    go_enter Try.func25, Try.ntmps25
    go_wp2
    go_ret
    exact ⟨rfl, rfl⟩

theorem turn_any (g : Nat) (w : World) : Calls Try.prog 29 #[.int .u64 (g : Int)] w fun e w' => e = .returned (.int .i64 ((g % 2 : Nat) : Int)) ∧ w = w' := by
  have h1 : (g : Int) % 2 = ((g % 2 : Nat) : Int) := by omega
  have H := Lib.hid h1
  clear h1
  go_enter Try.func29, Try.ntmps29
  go_wp2
  go_ret
  refine ⟨?_, rfl⟩
  rw [← H.out]
  rfl

/-- A root, as it is answered. -/
abbrev rootV (g : Nat) (v : Value) : Value := .agg #[.int .u64 (g : Int), v]
/-- New bytes. -/
def New (w w' : World) (v : Value) (l : Bytes) : Prop := Bs w' v l ∧ ∀ q, v.ownBlock = some q → w.heap.size ≤ q
def Opened (w : World) (k : Nat) (b : Bytes) (e : Ending) (w' : World) : Prop := ∃ v, e = .returned (rootV (rootOf k b).1 v) ∧ New w w' v (rootOf k b).2 ∧ Below w.heap.size w w'

/-- b[lo:], within the length; it lies in the same block. -/
theorem run_slice_low {P : Program} {t e : TypeId} (T : ByteTy P t e) {v : Value} {n : Nat} {a : Option Addr} {cap : Nat} (hv : v = .slice a n cap) (k1 : IntKind) (lo : Nat) (h1 : lo ≤ n) :
    (∀ w1, (Instr.slice t v (some (.int k1 (lo : Int))) none none).run P w1 = .ok (sliced a lo n cap 1) w1) := by
  intro w1
  subst hv
  rw [run_slice_l w1 t a n cap T.slice' k1 _ (by omega) (by omega), T.elem, T.run_size]
  simp [Result.andThen]
theorem bs_from {w : World} {a : Option Addr} {n cap : Nat} {l : Bytes} (h : Bs w (.slice a n cap) l) (lo : Nat) (hl : lo ≤ n) : Bs w (sliced a lo n cap 1) (l.drop lo) := by
  obtain ⟨a', cap', e, g1, g2, g3, g4⟩ := h
  simp only [Value.slice.injEq] at e
  obtain ⟨rfl, rfl, rfl⟩ := e
  have := bs_sliced g1 g2 g3 g4 lo l.length hl (Nat.le_refl _)
  rwa [List.take_of_length_le (Nat.le_refl _)] at this

theorem sliced_own (a : Option Addr) (lo hi cap sz n c : Nat) : (sliced a lo hi cap sz).ownBlock = (Value.slice a n c).ownBlock := by
  unfold sliced
  cases a with
  | none => simp [Value.ownBlock]
  | some a =>
    split
    · rfl
    · simp only [Option.map_some, Value.ownBlock, Addr.add]
      split <;> rfl

/-- A result that lies in a cell. -/
theorem results_cell {P : Program} {fn : Func} {t : Tmp} {ty : TypeId} (h : fn.results = #[.cell t ty]) {tmps : Array Value} {w : World} {a : Addr} {v : Value} (ha : tmps.getD t undef = .pointer (some a))
    (hl : (loadVar ty a).run P w = .ok v w) : (results fn tmps).run P w = .ok v w := by
  have ha' : tmps[t]?.getD undef = .pointer (some a) := by rw [← Array.getD_eq_getD_getElem?]; exact ha
  simp [results, h, ha', asAddr, hl]
theorem load_root {w : World} {g n : Nat} {v : Value} (h : Cel w g [.int .u64 (n : Int), v] 78) (hv : ∃ a l c, v = .slice a l c) : (loadVar 78 ⟨g, 0, none⟩).run Try.prog w = .ok (rootV n v) w := by
  obtain ⟨a, l, c, rfl⟩ := hv
  have c0 : w.cell? ⟨g, 0, none⟩ = some (.int .u64 (n : Int)) := by rw [h.cell]; rfl
  have c1 : w.cell? ⟨g, 1, none⟩ = some (.slice a l c) := by rw [h.cell]; rfl
  unfold rootV
  go_simp

theorem openV_len (l : Bytes) : (openV l).2.1.length ≤ l.length := by
  unfold openV
  split
  · split
    · simp only [List.length_take, List.length_drop]; omega
    · exact Nat.zero_le _
  · exact Nat.zero_le _
theorem new_nil (w w' : World) : New w w' (.slice none 0 0) [] := ⟨Bs.nil _, fun q h => by cases h⟩
theorem opened_no {w w' : World} {k : Nat} {b : Bytes} (h : ¬ isRoot k b) (hb : Below w.heap.size w w') : Opened w k b (.returned (rootV 0 (.slice none 0 0))) w' := by
  unfold Opened
  rw [rootOf_no h]
  exact ⟨_, rfl, new_nil _ _, hb⟩

set_option maxHeartbeats 1000000 in
theorem opened_any {b : Value} {l : Bytes} (k : Nat) (w : World) (hb : Bs w b l) (hl : l.length ≤ 1073741824) : Calls Try.prog 55 #[.int .i64 (k : Int), b] w (Opened w k l) := by
  have hbA := hb.alloc (.cells #[.int .u64 0, .slice none 0 0] 78)
  have hz := openV_len l
  have hO := blkOpen_any (w.alloc (.cells #[.int .u64 0, .slice none 0 0] 78)) hbA
  have hno := fun (w' : World) (h : ¬ isRoot k l) => opened_no (w := w) (w' := w') h
  have hyes : isRoot k l → rootOf k l = (genOf l, (openV l).2.1.drop 8) := rootOf_yes
  have hA : Below w.heap.size w (w.alloc (.cells #[.int .u64 0, .slice none 0 0] 78)) := (Below.refl _ _).alloc (Nat.le_refl _) _
  have hc := Cel.new w #[.int .u64 0, .slice none 0 0] 78
  unfold Opened at *
  unfold isRoot genOf at hno hyes
  unfold Opens at hO
  generalize openV l = x at *
  obtain ⟨kd, bd, cd⟩ := x
  simp only at hz hO hno hyes
  have H := Lib.hid (And.intro hO (And.intro hno (And.intro hyes (And.intro hA hc))))
  clear hbA hO hno hyes hA hc hb
  go_enter Try.func55, Try.ntmps55
  go_wp2_with fail
  refine H.out.1.mono ?_
  rintro e w1 ⟨v1, rfl, o1, b1⟩
  have hc1 := H.out.2.2.2.2.below b1 H.out.2.2.2.2.lt
  have k0 : w1.cell? ⟨w.heap.size, 0, none⟩ = some (.int .u64 0) := by rw [hc1.cell]; rfl
  have k1 : w1.cell? ⟨w.heap.size, 1, none⟩ = some (.slice none 0 0) := by rw [hc1.cell]; rfl
  have f1 := fun i => hc1.frozen i
  have hlt := hc1.lt
  have hbw := H.out.2.2.2.1.trans (b1.mono H.out.2.2.2.1.size)
  have H1 := Lib.hid (And.intro o1 (And.intro b1 (And.intro hbw hc1)))
  clear b1 hbw hc1
  by_cases h1 : cd = 0
  · by_cases h2 : kd = 1
    · subst h1
      subst h2
      have hT := take_any (b := v1) (l := bd) 0 8 w1 o1.bs (by omega)
      obtain ⟨a1, c1, rfl, hbs⟩ := o1.bs.shape
      have hmay : takeMay bd 0 8 := ⟨rfl, by omega, by omega⟩
      by_cases h3 : 8 ≤ bd.length
      · have eE : takeE bd 0 8 = 0 := by unfold takeE; rw [if_pos hmay, if_pos (by omega)]
        have eX : takeX bd 0 8 = 8 := by unfold takeX; rw [if_pos ⟨hmay, by omega⟩]; rfl
        have eN : takeN bd 0 8 = beNat (bd.take 8) := by unfold takeN; rw [if_pos ⟨hmay, by omega⟩]; rfl
        have hg := beNat_lt (bd.take 8)
        rw [List.length_take, show min 8 bd.length = 8 by omega] at hg
        unfold Takes at hT
        rw [eE, eX, eN] at hT
        obtain ⟨g, hgg⟩ : ∃ g, beNat (bd.take 8) = g := ⟨_, rfl⟩
        rw [hgg] at hT hg
        have HI := Lib.hid (And.intro H.out.2.1 (And.intro H.out.2.2.1 (And.intro o1 hgg)))
        have HT := Lib.hid hT
        have h3' : (8 : Int) ≤ (bd.length : Int) := by omega
        have hzz : (bd.length : Int) ≤ 1073741824 := by omega
        clear H hT eE eX eN hmay hgg o1
        go_wp2_with fail
        clear k0 k1 f1
        refine HT.out.mono ?_
        rintro e w2 ⟨rfl, b2⟩
        have hc2 := H1.out.2.2.2.below b2 H1.out.2.2.2.lt
        have k0 : w2.cell? ⟨w.heap.size, 0, none⟩ = some (.int .u64 0) := by rw [hc2.cell]; rfl
        have k1 : w2.cell? ⟨w.heap.size, 1, none⟩ = some (.slice none 0 0) := by rw [hc2.cell]; rfl
        have f1 := fun i => hc2.frozen i
        have hlt := hc2.lt
        have hbw := H1.out.2.2.1.trans (b2.mono H1.out.2.2.1.size)
        have hmg := fun W => mayGen_any g W (by omega)
        have htu := fun W => turn_any g W
        by_cases h4 : genB g = true
        · rw [h4] at hmg
          by_cases h5 : g % 2 = k
          · rw [h5] at htu
            have hL : bd.length ≤ 488 ∨ 488 < bd.length := by omega
            have H2 := Lib.hid (And.intro b2 (And.intro hbw (And.intro hc2 (And.intro hmg htu))))
            clear b2 hbw hc2 hmg htu HT
            rcases hL with hL | hL
            · have hroot := HI.out.2.1 ⟨trivial, trivial, h3, by rw [HI.out.2.2.2]; exact h4, by rw [HI.out.2.2.2]; exact h5, hL⟩
              rw [HI.out.2.2.2] at hroot
              have hL' : (bd.length : Int) - 8 ≤ 480 := by omega
              have hrs := run_slice_low (P := Try.prog) bt (v := .slice a1 bd.length c1) rfl .i64 8 h3
              have hv2 := bs_from (hbs.below H2.out.1) 8 h3
              have hown := fun q (hq : (sliced a1 8 bd.length c1 1).ownBlock = some q) => (HI.out.2.2.1.own (q := q) (by rw [← sliced_own a1 8 bd.length c1 1 bd.length c1]; exact hq)).1
              have H3 := Lib.hid (And.intro hroot (And.intro hv2 hown))
              clear hroot hv2 hown h3 h4 h5 hL hbs hrs
              by_cases hc8 : c1 = 8
              all_goals
                have H4 := Lib.hid hc8
                clear hc8
                go_wp2_with fail
                refine (H2.out.2.2.2.1 _).mono ?_
                rintro e w3 ⟨rfl, rfl⟩
                go_wp2_with fail
                refine (H2.out.2.2.2.2 _).mono ?_
                rintro e w3 ⟨rfl, rfl⟩
                have hc8 := H4.out
                go_wp2_with fail
                refine bodyPost_ret (results_cell rfl rfl (load_root ((H2.out.2.2.1.set 0 (.int .u64 (g : Int))).set 1 _) ⟨_, _, _, rfl⟩)) rfl ?_
                have ho : Only (· = w.heap.size) w2 ((w2.setCell ⟨w.heap.size, 0, none⟩ (.int .u64 (g : Int))).setCell ⟨w.heap.size, 1, none⟩ (sliced a1 8 bd.length c1 1)) := ((Only.refl (· = w.heap.size) w2).setCell (p := ⟨w.heap.size, 0, none⟩) (.inl rfl) _).setCell (p := ⟨w.heap.size, 1, none⟩) (.inl rfl) _
                have hfin := H3.out.2.1.only ho fun q hq e => by have := H3.out.2.2 q hq; simp at this; omega
                have hbel := (H2.out.2.1.setCell (p := ⟨w.heap.size, 0, none⟩) (Nat.le_refl _) (.int .u64 (g : Int))).setCell (p := ⟨w.heap.size, 1, none⟩) (Nat.le_refl _) (sliced a1 8 bd.length c1 1)
                have hown : ∀ q, (sliced a1 8 bd.length c1 1).ownBlock = some q → w.heap.size ≤ q := fun q hq => by have := H3.out.2.2 q hq; simp at this; omega
                rw [H3.out.1]
                simp only [sliced, if_pos, if_neg, hc8, not_false_eq_true] at hfin hbel hown
                exact ⟨_, rfl, ⟨hfin, hown⟩, hbel⟩
            · have hL' : ¬ (bd.length : Int) - 8 ≤ 480 := by omega
              have HN := Lib.hid (HI.out.1 · (fun h => absurd h.2.2.2.2.2 (by omega)))
              clear h3 h4 h5 hL hbs
              go_wp2_with fail
              refine (H2.out.2.2.2.1 _).mono ?_
              rintro e w3 ⟨rfl, rfl⟩
              go_wp2_with fail
              refine (H2.out.2.2.2.2 _).mono ?_
              rintro e w3 ⟨rfl, rfl⟩
              go_wp2_with fail
              refine bodyPost_ret (results_cell rfl rfl (load_root ((H2.out.2.2.1.set 0 (.int .u64 0)).set 1 (.slice none 0 0)) ⟨_, _, _, rfl⟩)) rfl ?_
              exact HN.out _ ((H2.out.2.1.setCell (p := ⟨w.heap.size, 0, none⟩) (by simp) _).setCell (p := ⟨w.heap.size, 1, none⟩) (by simp) _)
          · have h5' : ¬ ((g % 2 : Nat) : Int) = (k : Int) := by omega
            have hq : ((((g % 2 : Nat) : Int)) != (k : Int)) = true := by simpa using h5'
            have HN := Lib.hid (HI.out.1 · (fun h => h5 (by rw [← HI.out.2.2.2]; exact h.2.2.2.2.1)))
            have H2 := Lib.hid (And.intro b2 (And.intro hbw (And.intro hc2 (And.intro hmg htu))))
            clear b2 hbw hc2 hmg htu HT h3 h4 h5 hbs
            go_wp2_with fail
            refine (H2.out.2.2.2.1 _).mono ?_
            rintro e w3 ⟨rfl, rfl⟩
            go_wp2_with fail
            refine (H2.out.2.2.2.2 _).mono ?_
            rintro e w3 ⟨rfl, rfl⟩
            go_wp2_with fail
            refine bodyPost_ret (results_cell rfl rfl (load_root ((H2.out.2.2.1.set 0 (.int .u64 0)).set 1 (.slice none 0 0)) ⟨_, _, _, rfl⟩)) rfl ?_
            exact HN.out _ ((H2.out.2.1.setCell (p := ⟨w.heap.size, 0, none⟩) (by simp) _).setCell (p := ⟨w.heap.size, 1, none⟩) (by simp) _)
        · have h4' : genB g = false := by simpa using h4
          rw [h4'] at hmg
          have HN := Lib.hid (HI.out.1 · (fun h => h4 (by rw [← HI.out.2.2.2]; exact h.2.2.2.1)))
          have H2 := Lib.hid (And.intro b2 (And.intro hbw (And.intro hc2 (And.intro hmg htu))))
          clear b2 hbw hc2 hmg htu HT h3 h4 h4' hbs
          go_wp2_with fail
          refine (H2.out.2.2.2.1 _).mono ?_
          rintro e w3 ⟨rfl, rfl⟩
          go_wp2_with fail
          refine bodyPost_ret (results_cell rfl rfl (load_root ((H2.out.2.2.1.set 0 (.int .u64 0)).set 1 (.slice none 0 0)) ⟨_, _, _, rfl⟩)) rfl ?_
          exact HN.out _ ((H2.out.2.1.setCell (p := ⟨w.heap.size, 0, none⟩) (by simp) _).setCell (p := ⟨w.heap.size, 1, none⟩) (by simp) _)
      · have hlt8 : (bd.length : Int) < 8 := by omega
        have eE : takeE bd 0 8 = 5 := by unfold takeE; rw [if_pos hmay, if_neg (by omega)]
        have eX : takeX bd 0 8 = 0 := by unfold takeX; rw [if_neg (by omega)]
        have eN : takeN bd 0 8 = 0 := by unfold takeN; rw [if_neg (by omega)]
        unfold Takes at hT
        rw [eE, eX, eN] at hT
        have HN := Lib.hid (H.out.2.1 · (fun h => h3 h.2.2.1))
        have HT := Lib.hid hT
        clear H hT eE eX eN hmay o1 h3 hbs
        go_wp2_with fail
        clear k0 k1 f1
        refine HT.out.mono ?_
        rintro e w2 ⟨rfl, b2⟩
        have hc2 := H1.out.2.2.2.below b2 H1.out.2.2.2.lt
        have k0 : w2.cell? ⟨w.heap.size, 0, none⟩ = some (.int .u64 0) := by rw [hc2.cell]; rfl
        have k1 : w2.cell? ⟨w.heap.size, 1, none⟩ = some (.slice none 0 0) := by rw [hc2.cell]; rfl
        have f1 := fun i => hc2.frozen i
        have hlt := hc2.lt
        have hbw := H1.out.2.2.1.trans (b2.mono H1.out.2.2.1.size)
        have H2 := Lib.hid (And.intro b2 (And.intro hbw hc2))
        clear b2 hbw hc2 HT
        go_wp2_with fail
        refine bodyPost_ret (results_cell rfl rfl (load_root ((H2.out.2.2.set 0 (.int .u64 0)).set 1 (.slice none 0 0)) ⟨_, _, _, rfl⟩)) rfl ?_
        exact HN.out _ ((H2.out.2.1.setCell (p := ⟨w.heap.size, 0, none⟩) (by simp) _).setCell (p := ⟨w.heap.size, 1, none⟩) (by simp) _)
    · have h2' : ¬ ((kd.toNat : Int) = 1) := by
        intro e
        apply h2
        apply UInt8.toNat_inj.1
        rw [show (1 : UInt8).toNat = 1 from rfl]
        omega
      have hq : ((kd.toNat : Int) != 1) = true := by simpa using h2'
      have HN := Lib.hid (H.out.2.1 · (fun h => h2 h.2.1))
      clear h2 o1
      subst h1
      go_wp2_with fail
      refine bodyPost_ret (results_cell rfl rfl (load_root ((H1.out.2.2.2.set 0 (.int .u64 0)).set 1 (.slice none 0 0)) ⟨_, _, _, rfl⟩)) rfl ?_
      exact HN.out _ ((H1.out.2.2.1.setCell (p := ⟨w.heap.size, 0, none⟩) (by simp) _).setCell (p := ⟨w.heap.size, 1, none⟩) (by simp) _)
  · have HN := Lib.hid (H.out.2.1 · (fun h => h1 h.1))
    have hq : (cd != 0) = true := by simpa using h1
    clear h1 o1
    go_wp2_with fail
    refine bodyPost_ret (results_cell rfl rfl (load_root ((H1.out.2.2.2.set 0 (.int .u64 0)).set 1 (.slice none 0 0)) ⟨_, _, _, rfl⟩)) rfl ?_
    exact HN.out _ ((H1.out.2.2.1.setCell (p := ⟨w.heap.size, 0, none⟩) (by simp) _).setCell (p := ⟨w.heap.size, 1, none⟩) (by simp) _)
end Go.Proofs.Ytcpapdpnnlnemaa
namespace Go.Proofs.Ytcpapdpnnlnemaa
open Go.RowKit

theorem results_cell_tmp {P : Program} {fn : Func} {t u : Tmp} {ty : TypeId} (h : fn.results = #[.cell t ty, .tmp u]) {tmps : Array Value} {w : World} {a : Addr} {v : Value} (ha : tmps.getD t undef = .pointer (some a))
    (hl : (loadVar ty a).run P w = .ok v w) : (results fn tmps).run P w = .ok (.tuple #[v, tmps.getD u undef]) w := by
  have ha' : tmps[t]?.getD undef = .pointer (some a) := by rw [← Array.getD_eq_getD_getElem?]; exact ha
  simp [results, h, ha', asAddr, hl]

/-- Of the first k blocks the greatest root. -/
def bestN (D : Dv) : Nat → Nat × Bytes
  | 0 => (0, [])
  | k + 1 => best (bestN D k) (rootOf k (stAt D k))
theorem best_none (k : Nat) (b : Bytes) : best (0, []) (rootOf k b) = rootOf k b := by
  unfold best
  split
  · rfl
  · rename_i h
    rcases rootOf_own k b with e | e
    · exact e.symm
    · simp only at h; omega
theorem bestN_two (D : Dv) : bestN D 2 = best (rootOf 0 (stAt D 0)) (rootOf 1 (stAt D 1)) := by
  show best (best (0, []) (rootOf 0 (stAt D 0))) (rootOf 1 (stAt D 1)) = _
  rw [best_none]
theorem bestN_gen (D : Dv) : ∀ k, (bestN D k).1 ≤ 4611686018427387904
  | 0 => Nat.zero_le _
  | k + 1 => by
    unfold bestN best
    split
    · exact rootOf_gen _ _
    · exact bestN_gen D k
def Great (w : World) (r : Nat × Bytes) (e : Ending) (w' : World) : Prop := ∃ v, e = .returned (.tuple #[rootV r.1 v, err 0]) ∧ New w w' v r.2 ∧ Below w.heap.size w w'

theorem New.slice {w w' : World} {v : Value} {l : Bytes} (h : New w w' v l) : ∃ a n c, v = .slice a n c := let ⟨_, _, e, _⟩ := h.1.shape; ⟨_, _, _, e⟩

set_option maxRecDepth 100000 in
set_option maxHeartbeats 1000000 in
theorem greatest_any {w : World} {b : Nat} {D : Dv} {F : Nat → Prop} (h : Dev w b D F) (ho : D.on = true) (h2 : 2 ≤ D.bk.length) : Calls Try.prog 43 #[ptr b] w (Great w (bestN D 2)) := by
  have HD := Lib.hid (And.intro h (And.intro ho h2))
  have hA : Below w.heap.size w (w.alloc (.cells #[.int .u64 0, .slice none 0 0] 78)) := (Below.refl _ _).alloc (Nat.le_refl _) _
  have hc := Cel.new w #[.int .u64 0, .slice none 0 0] 78
  have H := Lib.hid (And.intro hA hc)
  clear h ho h2 hA hc
  go_enter Try.func43, Try.ntmps43
  go_wp2
  go_loopw [8] (fun i wr => ∃ r : Nat, r ≤ 2 ∧ i = .int .i64 (r : Int) ∧ ∃ v, Cel wr w.heap.size [.int .u64 ((bestN D r).1 : Int), v] 78 ∧ Bs wr v (bestN D r).2 ∧ (∀ q, v.ownBlock = some q → w.heap.size < q) ∧ Below w.heap.size w wr) (fun i _ => 2 - (intOf i).toNat)
  case atStart => exact ⟨0, by omega, rfl, .slice none 0 0, H.out.2, Bs.nil _, (fun q h => by cases h), H.out.1⟩
  case round =>
    obtain ⟨r, hr, rfl, v, hcr, hbs, hown, hb⟩ := hrel
    by_cases hlt : r < 2
    · have hlt' : (r : Int) < 2 := by omega
      obtain ⟨x, hx⟩ : ∃ x, D.bk[r]? = some x := ⟨_, List.getElem?_eq_getElem (by have := HD.out.2.2; omega)⟩
      have hrd := read_ok (HD.out.1.below hb) HD.out.2.1 hx
      have hstx := stAt_of hx
      have hlen : x.stands.length = 512 := stands_len HD.out.1 hx
      have HR := Lib.hid (And.intro hrd (And.intro hcr (And.intro hbs (And.intro hown (And.intro hb (And.intro hstx hlen))))))
      clear hx hrd hcr hbs hown hb hstx hlen
      go_wp2_with fail
      refine HR.out.1.mono ?_
      rintro e w2 ⟨g, rfl, hg, hgz, b2⟩
      have hc2 := HR.out.2.1.below b2 HR.out.2.1.lt
      have hlt2 := hc2.lt
      have hb2 := HR.out.2.2.2.2.1.trans (b2.mono HR.out.2.2.2.2.1.size)
      have hbb : Bs w2 (.slice (some ⟨g, 0, none⟩) 512 512) x.stands := Blk.bs ⟨g, rfl, hg, HR.out.2.2.2.2.2.2⟩
      have hop := opened_any r w2 hbb (by have := HR.out.2.2.2.2.2.2; omega)
      have hold := HR.out.2.2.1.below b2
      have H2 := Lib.hid (And.intro hc2 (And.intro hb2 (And.intro hold hop)))
      clear hc2 hb2 hg b2 hbb hop hold
      go_wp2_with fail
      refine H2.out.2.2.2.mono ?_
      rintro e w3 ⟨v3, rfl, hn3, b3⟩
      obtain ⟨a3, n3, c3, rfl⟩ := hn3.slice
      obtain ⟨a, n, c, rfl⟩ : ∃ a n c, v = .slice a n c := let ⟨_, _, e, _⟩ := HR.out.2.2.1.shape; ⟨_, _, _, e⟩
      have hc3 := H2.out.1.below b3 H2.out.1.lt
      have hb3 := H2.out.2.1.trans (b3.mono H2.out.2.1.size)
      have hold3 := H2.out.2.2.1.below b3
      have hlt3 := hc3.lt
      have f3 := fun i => hc3.frozen i
      have m0 : w3.cell? ⟨w.heap.size, 0, none⟩ = some (.int .u64 ((bestN D r).1 : Int)) := by rw [hc3.cell]; rfl
      have m1 : w3.cell? ⟨w.heap.size, 1, none⟩ = some (.slice a n c) := by rw [hc3.cell]; rfl
      have hstep : bestN D (r + 1) = best (bestN D r) (rootOf r x.stands) := by rw [← HR.out.2.2.2.2.2.1]; rfl
      have HB := Lib.hid (And.intro hb3 (And.intro hold3 (And.intro hn3.1 (And.intro hc3 (And.intro hn3.2 (And.intro hstep (And.intro HR.out.2.2.2.1 hlt2)))))))
      clear hc3 hb3 hold3 hn3 b3 hstep
      generalize rootOf r x.stands = R3 at *
      generalize hB : bestN D r = R0 at *
      clear hB
      by_cases hgt : R0.1 < R3.1
      · have hgt' : (R0.1 : Int) < (R3.1 : Int) := by omega
        have hbest : best R0 R3 = R3 := by unfold best; rw [if_pos hgt]
        have HF := Lib.hid hbest
        clear hgt hbest
        go_wp2_with fail
        go_roundw
        case rel =>
          obtain ⟨hb3, hold3, hn3, hc3, hown3, hstep, _, hz⟩ := HB.out
          have ho : Only (· = w.heap.size) w3 (((w3.setCell ⟨w.heap.size, 0, none⟩ (.int .u64 (R3.1 : Int))).setCell ⟨w.heap.size, 1, none⟩ (.slice a3 n3 c3)).alloc (.cells #[.int .u64 (R3.1 : Int), .slice a3 n3 c3] 78)) := (((Only.refl (· = w.heap.size) w3).setCell (p := ⟨w.heap.size, 0, none⟩) (.inl rfl) _).setCell (p := ⟨w.heap.size, 1, none⟩) (.inl rfl) _).alloc _
          refine ⟨r + 1, by omega, by go_num, .slice a3 n3 c3, ?_, ?_, fun q hq => by have := hown3 q hq; omega, ((hb3.setCell (p := ⟨w.heap.size, 0, none⟩) (Nat.le_refl _) _).setCell (p := ⟨w.heap.size, 1, none⟩) (Nat.le_refl _) _).alloc (by simpa using hb3.size) _⟩
          · rw [hstep, HF.out]
            exact ((hc3.set 0 _).set 1 _).alloc _
          · rw [hstep, HF.out]
            exact hn3.only ho fun q hq e => by have := hown3 q hq; omega
        case measure => simp [intOf]; omega
      · have hgt' : ¬ (R0.1 : Int) < (R3.1 : Int) := by omega
        have hbest : best R0 R3 = R0 := by unfold best; rw [if_neg hgt]
        have HF := Lib.hid hbest
        clear hgt hbest
        go_wp2_with fail
        go_roundw
        case rel =>
          obtain ⟨hb3, hold3, _, hc3, _, hstep, hown, hz⟩ := HB.out
          have hnew : Below w3.heap.size w3 (w3.alloc (.cells #[.int .u64 (R3.1 : Int), .slice a3 n3 c3] 78)) := (Below.refl _ _).alloc (Nat.le_refl _) _
          refine ⟨r + 1, by omega, by go_num, .slice a n c, ?_, ?_, hown, hb3.trans (hnew.mono hb3.size)⟩
          · rw [hstep, HF.out]
            exact hc3.alloc _
          · rw [hstep, HF.out]
            exact hold3.below hnew
        case measure => simp [intOf]; omega
    · obtain rfl : r = 2 := by omega
      obtain ⟨a, n, c, rfl⟩ : ∃ a n c, v = .slice a n c := let ⟨_, _, e, _⟩ := hbs.shape; ⟨_, _, _, e⟩
      have k0 : wr.cell? ⟨w.heap.size, 0, none⟩ = some (.int .u64 ((bestN D 2).1 : Int)) := by rw [hcr.cell]; rfl
      have k1 : wr.cell? ⟨w.heap.size, 1, none⟩ = some (.slice a n c) := by rw [hcr.cell]; rfl
      have f1 := fun i => hcr.frozen i
      have hlt := hcr.lt
      have HR := Lib.hid (And.intro hcr (And.intro hbs (And.intro hown hb)))
      clear hcr hbs hown hb
      generalize bestN D 2 = R at *
      go_wp2_with fail
      have k3 := (HR.out.1.set 0 (.int .u64 (R.1 : Int))).set 1 (.slice a n c)
      refine bodyPost_ret (results_cell_tmp rfl rfl (load_root k3 ⟨_, _, _, rfl⟩)) rfl ?_
      have ho : Only (· = w.heap.size) wr ((wr.setCell ⟨w.heap.size, 0, none⟩ (.int .u64 (R.1 : Int))).setCell ⟨w.heap.size, 1, none⟩ (.slice a n c)) := ((Only.refl (· = w.heap.size) wr).setCell (p := ⟨w.heap.size, 0, none⟩) (.inl rfl) _).setCell (p := ⟨w.heap.size, 1, none⟩) (.inl rfl) _
      exact ⟨_, rfl, ⟨HR.out.2.1.only ho fun q hq e => by have := HR.out.2.2.1 q hq; omega, fun q hq => by have := HR.out.2.2.1 q hq; omega⟩, (HR.out.2.2.2.setCell (p := ⟨w.heap.size, 0, none⟩) (Nat.le_refl _) _).setCell (p := ⟨w.heap.size, 1, none⟩) (Nat.le_refl _) _⟩

/-- What Load answers. -/
def Loads (w : World) (r : Nat × Bytes × Int) (e : Ending) (w' : World) : Prop := ∃ v, e = .returned (.tuple #[.int .u64 (r.1 : Int), v, err r.2.2]) ∧ New w w' v r.2.1 ∧ Below w.heap.size w w'

theorem run_no_root : ∀ w : World, (Instr.field 78 (.agg #[.int .u64 0, .slice none 0 0]) 0).run Try.prog w = .ok (.int .u64 0) w := fun w => by kernel_rfl

theorem load_nil (w : World) : Calls Try.prog 22 #[.pointer none] w (Loads w (0, [], 2)) := by
  go_enter Try.func22, Try.ntmps22
  go_wp2
  go_ret3
  exact ⟨_, rfl, new_nil _ _, Below.refl _ _⟩

set_option maxRecDepth 100000 in
set_option maxHeartbeats 1000000 in
theorem load_any {w : World} {b : Nat} {D : Dv} {F : Nat → Prop} (h : Dev w b D F) : Calls Try.prog 22 #[ptr b] w (Loads w (loadV D)) := by
  by_cases ho : D.on = false
  · have hp := power_any h
    rw [ho] at hp
    rw [show loadV D = (0, [], 8) from if_pos ho]
    clear ho h
    go_enter Try.func22, Try.ntmps22
    go_wp2_with fail
    refine hp.mono ?_
    rintro e w1 ⟨rfl, rfl⟩
    go_wp2
    go_ret3
    exact ⟨_, rfl, new_nil _ _, Below.refl _ _⟩
  have ho' : D.on = true := by simpa using ho
  have hp := power_any h
  rw [ho'] at hp
  have hs := size_any h
  by_cases h2 : D.bk.length < 2
  · rw [show loadV D = (0, [], 1) from by unfold loadV; rw [if_neg ho, if_pos h2]]
    have h2' : (D.bk.length : Int) < 2 := by omega
    clear ho ho' h h2
    go_enter Try.func22, Try.ntmps22
    go_wp2_with fail
    refine hp.mono ?_
    rintro e w1 ⟨rfl, rfl⟩
    go_wp2_with fail
    refine hs.mono ?_
    rintro e w1 ⟨rfl, rfl⟩
    go_wp2
    go_ret3
    exact ⟨_, rfl, new_nil _ _, Below.refl _ _⟩
  have hg := greatest_any h ho' (by omega)
  have h2' : ¬ (D.bk.length : Int) < 2 := by omega
  have hl : loadV D = if (bestN D 2).1 = 0 then (0, [], 4) else ((bestN D 2).1, (bestN D 2).2, 0) := by
    unfold loadV
    rw [if_neg ho, if_neg h2, bestN_two]
  rw [hl]
  unfold Great at hg
  generalize bestN D 2 = R at *
  obtain ⟨L, hL⟩ : ∃ L, (if R.1 = 0 then (0, [], 4) else (R.1, R.2, 0) : Nat × Bytes × Int) = L := ⟨_, rfl⟩
  rw [hL]
  have H := Lib.hid (And.intro hp (And.intro hs (And.intro hg hL)))
  clear ho ho' h h2 hl hp hs hg hL
  go_enter Try.func22, Try.ntmps22
  go_wp2_with fail
  refine H.out.1.mono ?_
  rintro e w1 ⟨rfl, rfl⟩
  go_wp2_with fail
  refine H.out.2.1.mono ?_
  rintro e w1 ⟨rfl, rfl⟩
  go_wp2_with fail
  refine H.out.2.2.1.mono ?_
  rintro e w1 ⟨v, rfl, hn, hb⟩
  obtain ⟨a, n, c, rfl⟩ := hn.slice
  have hnew : Below w1.heap.size w1 (w1.alloc (.cells #[.int .u64 (R.1 : Int), .slice a n c] 78)) := (Below.refl _ _).alloc (Nat.le_refl _) _
  have HN := Lib.hid (And.intro hn (And.intro hb (And.intro hnew (hb.trans (hnew.mono hb.size)))))
  clear hn hb hnew
  have hL := H.out.2.2.2
  have hfld := run_no_root
  by_cases hz : R.1 = 0
  · have hz' : (R.1 : Int) = 0 := by omega
    rw [if_pos hz] at hL
    have HL := Lib.hid hL
    clear hz hL
    go_wp2_with fail
    go_ret3
    rw [← HL.out]
    exact ⟨_, rfl, new_nil _ _, HN.out.2.1.alloc HN.out.2.1.size _⟩
  · have hz' : ¬ (R.1 : Int) = 0 := by omega
    rw [if_neg hz] at hL
    have HL := Lib.hid hL
    clear hz hL
    go_wp2_with fail
    go_quiet (fail)
    go_wp2
    go_ret3
    rw [← HL.out]
    have hw : ∀ m, Below w1.heap.size w1 ((w1.alloc (.cells #[.int .u64 (R.1 : Int), .slice a n c] 78)).drewN m) := fun m => below_drewN ((Below.refl _ _).alloc (Nat.le_refl _) _) m
    exact ⟨_, rfl, ⟨HN.out.1.1.below (hw _), HN.out.1.2⟩, HN.out.2.1.trans ((hw _).mono HN.out.2.1.size)⟩
end Go.Proofs.Ytcpapdpnnlnemaa
namespace Go.Proofs.Ytcpapdpnnlnemaa
open Go.RowKit

section
variable {w w1 w2 w3 : World} {b : Nat} {D D1 D2 : Dv} {F : Nat → Prop}
/-- Made ahead, then done. -/
theorem ds_ahead (h0 : ∀ q, F q → q < w.heap.size) (hb : Below w.heap.size w w1) (hd : Dev w2 b D1 (Grow F w1 w2)) (ho : Only F w1 w2) : Dev w2 b D1 (Grow F w w2) ∧ Only F w w2 := by
  have s1 := hb.size
  have s2 := ho.size
  refine ⟨hd.widen (fun q hq => hq.imp id fun hq => ⟨by omega, hq.2⟩) (fun q hq => ?_), (Only.of_below hb F).trans ho⟩
  rcases hq with hq | hq
  · have := h0 q hq; omega
  · exact hq.2
/-- Done, then done again. -/
theorem ds_then (h0 : ∀ q, F q → q < w.heap.size) (ho : Only F w w1) (hd : Dev w2 b D1 (Grow (Grow F w w1) w1 w2)) (h2 : Only (Grow F w w1) w1 w2) : Dev w2 b D1 (Grow F w w2) ∧ Only F w w2 := by
  have s1 := ho.size
  have s2 := h2.size
  refine ⟨hd.widen (fun q hq => ?_) (fun q hq => ?_), ho.then h2 fun q hq => ?_⟩
  · rcases hq with (hq | hq) | hq
    · exact .inl hq
    · exact .inr ⟨hq.1, by omega⟩
    · exact .inr ⟨by omega, hq.2⟩
  · rcases hq with hq | hq
    · have := h0 q hq; omega
    · exact hq.2
  · exact hq.imp id fun h => h.1

theorem save_nil {lv : Value} (g : Nat) (w : World) : Calls Try.prog 11 #[.pointer none, .int .u64 (g : Int), lv] w fun e w' => e = .returned (err 2) ∧ w = w' := by
  go_enter Try.func11, Try.ntmps11
  go_wp2
  go_ret
  exact ⟨rfl, rfl⟩

set_option maxRecDepth 100000 in
set_option maxHeartbeats 1000000 in
theorem save_any {lv : Value} {l : Bytes} {n : Nat} (g : Nat) (h : Dev w b D F) (hu : Upto D n) (hn : n < 1000000) (hg : g < 18446744073709551616) (hl : Bs w lv l) :
    Calls Try.prog 11 #[ptr b, .int .u64 (g : Int), lv] w (DSteps w b F (sCode D g l) (sDev D g l)) := by
  obtain ⟨la, lc, rfl, _⟩ := hl.shape
  have hmg := mayGen_any g w hg
  have hsz := size_any h
  by_cases hm : sMay D g
  · obtain ⟨h1, h2⟩ := hm
    rw [h1] at hmg
    have h2' : ¬ (D.bk.length : Int) < 2 := by omega
    by_cases hmany : 480 < l.length
    · have e := save_many (D := D) (g := g) (l := l) ⟨h1, h2⟩ hmany
      rw [e.1, e.2]
      have hmany' : (480 : Int) < (l.length : Int) := by omega
      have HF := Lib.hid (d_same h)
      clear h1 h2 hmany e h hl hu
      go_enter Try.func11, Try.ntmps11
      go_wp2_with fail
      refine hmg.mono ?_
      rintro e w1 ⟨rfl, rfl⟩
      go_wp2_with fail
      refine hsz.mono ?_
      rintro e w1 ⟨rfl, rfl⟩
      go_wp2
      go_ret
      exact ⟨rfl, HF.out⟩
    · have hmany' : (l.length : Int) ≤ 480 := by omega
      have hl480 : l.length ≤ 480 := by omega
      have hcode : sCode D g l = (if wroteC D g l = 0 then fcode (wroteD D g l) else wroteC D g l) ∧ sDev D g l = (if wroteC D g l = 0 then fdev (wroteD D g l) else wroteD D g l) := by
        unfold sCode sDev
        constructor
        · rw [if_pos ⟨h1, h2⟩, if_neg hmany]
        · rw [if_pos ⟨h1, h2⟩, if_neg hmany]
      have hup := wdev_upto hu ((g % 2 : Nat) : Int) (sealG g l)
      have hput := put_any (b := .slice none 0 0) (l := []) g 8 w (Bs.nil w) (by simp)
      have hpl : putL [] g 8 = beL g 8 := by unfold putL; rw [if_pos (by rfl)]; rfl
      rw [hpl] at hput
      have H := Lib.hid (And.intro h (And.intro hl (And.intro hcode (And.intro hup.1 (And.intro (hu.small (by omega)) (And.intro hmg hsz))))))
      have HP := Lib.hid hput
      clear h1 h2 hmany h hl hu hcode hup hmg hsz hput hpl
      go_enter Try.func11, Try.ntmps11
      go_wp2_with fail
      refine H.out.2.2.2.2.2.1.mono ?_
      rintro e w1 ⟨rfl, rfl⟩
      go_wp2_with fail
      refine H.out.2.2.2.2.2.2.mono ?_
      rintro e w1 ⟨rfl, rfl⟩
      go_wp2_with fail
      refine HP.out.mono ?_
      rintro e w1 ⟨v1, rfl, o1, b1⟩
      have hl1 := H.out.2.1.below b1
      have hsz1 : (beL g 8).length + l.length ≤ 140737488355328 := by rw [beL_length]; omega
      have hz1 := b1.size
      have H1 := Lib.hid (And.intro o1 b1)
      clear HP b1
      go_wp2_with (at_builtin; refine wpList_append_bs bt rfl _ _ rfl _ rfl rfl o1 hl1 hsz1 hz1 ?_; intro v2 w2 o2 g2)
      have b2 := below_own H1.out.2 H1.out.1 g2
      have hsl := blkSeal_any (b := v2) (l := rootL g l) 1 w2 o2.bs
      have hV : sealV 1 (rootL g l) = (sealG g l, 0) := by unfold sealV; rw [if_neg (by decide), if_neg (by rw [rootL_length]; omega)]; rfl
      unfold Seals at hsl
      rw [hV] at hsl
      have H2 := Lib.hid (And.intro b2 hsl)
      clear b2 hsl hV o1 hl1 hsz1 hz1 o2 g2 H1
      go_wp2_with fail
      refine H2.out.2.mono ?_
      rintro e w3 ⟨v3, t3, rfl, o3, b3⟩
      have b3' := H2.out.1.trans (b3.mono H2.out.1.size)
      have h3 := H.out.1.below b3'
      have hwr := dwrite_any h3 H.out.2.2.2.2.1 ((g % 2 : Nat) : Int) o3.bs (fun q hq hf => by
        have s1 := o3.own hq
        have s2 := H2.out.1.size
        have s3 := H.out.1.fl q hf
        omega)
      have htu := turn_any g w3
      have H3 := Lib.hid (And.intro b3' (And.intro h3 (And.intro hwr htu)))
      clear b3 b3' h3 hwr o3 htu H2
      go_wp2_with fail
      refine H3.out.2.2.2.mono ?_
      rintro e w4 ⟨rfl, rfl⟩
      go_wp2_with fail
      refine H3.out.2.2.1.mono ?_
      rintro e w4 ⟨rfl, hd4, ho4⟩
      have hdone := ds_ahead H.out.1.fl H3.out.1 hd4 ho4
      have hc := H.out.2.2.1
      unfold wroteC wroteD at hc
      by_cases h0 : wcode D ((g % 2 : Nat) : Int) (sealG g l) = 0
      · rw [if_pos h0, if_pos h0] at hc
        have HE := Lib.hid hc
        have hfl := dflush_any hdone.1 (H.out.2.2.2.1.small (by omega))
        rw [h0]
        have HD := Lib.hid (And.intro hdone hfl)
        clear hc h0 hd4 ho4 hdone hfl
        go_wp2_with fail
        refine HD.out.2.mono ?_
        rintro e w5 ⟨rfl, hd5, ho5⟩
        have hfin := ds_then H.out.1.fl HD.out.1.2 hd5 ho5
        have HF := Lib.hid hfin
        clear hd5 ho5 hfin
        go_wp2
        go_ret
        rw [HE.out.1, HE.out.2]
        exact ⟨rfl, HF.out⟩
      · have h0' : (wcode D ((g % 2 : Nat) : Int) (sealG g l) != 0) = true := by simpa using h0
        rw [if_neg h0, if_neg h0] at hc
        have HE := Lib.hid hc
        have HD := Lib.hid hdone
        clear hc h0 hd4 ho4 hdone
        generalize wcode D ((g % 2 : Nat) : Int) (sealG g l) = c at *
        go_wp2
        go_ret
        rw [HE.out.1, HE.out.2]
        exact ⟨rfl, HD.out⟩
  · have e := save_not (D := D) (l := l) hm
    rw [e.1, e.2]
    have HF := Lib.hid (d_same h)
    by_cases h1 : genB g = true
    · have h2' : (D.bk.length : Int) < 2 := by
        by_cases h2 : 2 ≤ D.bk.length
        · exact absurd ⟨h1, h2⟩ hm
        · omega
      rw [h1] at hmg
      clear hm e h1 h hl hu
      go_enter Try.func11, Try.ntmps11
      go_wp2_with fail
      refine hmg.mono ?_
      rintro e w1 ⟨rfl, rfl⟩
      go_wp2_with fail
      refine hsz.mono ?_
      rintro e w1 ⟨rfl, rfl⟩
      go_wp2
      go_ret
      exact ⟨rfl, HF.out⟩
    · have h1' : genB g = false := by simpa using h1
      rw [h1'] at hmg
      clear hm e h1 h1' h hl hu
      go_enter Try.func11, Try.ntmps11
      go_wp2_with fail
      refine hmg.mono ?_
      rintro e w1 ⟨rfl, rfl⟩
      go_wp2
      go_ret
      exact ⟨rfl, HF.out⟩
end
end Go.Proofs.Ytcpapdpnnlnemaa
