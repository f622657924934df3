/- Pages as a list: did the state of then have each, has the one of now; what each call answers and leaves; no condition. · What it means that the program's pages lie in memory; no condition. · Contracts of package pages: each call answers as the chapter says, and writes nothing but the pages' states; condition: pages lie in memory, or the pointer is nil. · Take, Use, Drop, Settle, Back and New of package pages: each answers and leaves what the chapter says; condition: pages lie in memory. · New of package pages: all free, or why not; no condition. -/
import Derived.Test.YtgekeemhbnhelaaGreatM02
import Derived.Carry
namespace Go.Proofs.YtgekeemhbnhelaaGreat

/-- A page: of then, of now. -/
abbrev Pg := Bool × Bool
/-- The number of its state. -/
def pnum : Pg → Nat
  | (true, true) => 1
  | (false, true) => 2
  | (true, false) => 3
  | (false, false) => 0
theorem pnum_lt (x : Pg) : pnum x < 4 := by rcases x with ⟨_ | _, _ | _⟩ <;> decide
theorem pnum_free {x : Pg} : pnum x = 0 ↔ x = (false, false) := by rcases x with ⟨_ | _, _ | _⟩ <;> simp [pnum]

/-- The least free one. -/
def leastFree : List Pg → Option Nat := List.findIdx? fun x => pnum x == 0
/-- .. as slices.Index tells it. -/
def ixP (l : List Pg) : Int := match leastFree l with | some k => (k : Int) | none => -1
theorem ixP_some {l : List Pg} {k : Nat} (h : leastFree l = some k) : ixP l = k := by simp [ixP, h]
theorem ixP_none {l : List Pg} (h : leastFree l = none) : ixP l = -1 := by simp [ixP, h]
def tcode (l : List Pg) : Int := match leastFree l with | some _ => 0 | none => 7
def tpage (l : List Pg) : Int := match leastFree l with | some k => (k : Int) | none => 0
def tdone (l : List Pg) : List Pg := match leastFree l with | some k => l.set k (false, true) | none => l

/-- The page of a number, if there is one. -/
def pgAt (l : List Pg) (k : Int) : Option Pg := if 0 ≤ k then l[k.toNat]? else none
def ucode (l : List Pg) (k : Int) : Int := match pgAt l k with | none => 1 | some x => if pnum x = 0 then 0 else 3
def udone (l : List Pg) (k : Int) : List Pg := match pgAt l k with | none => l | some x => if pnum x = 0 then l.set k.toNat (true, true) else l
def rcode (l : List Pg) (k : Int) : Int := match pgAt l k with | none => 1 | some x => if x.2 = true then 0 else 3
def rdone (l : List Pg) (k : Int) : List Pg := match pgAt l k with | none => l | some x => if x.2 = true then l.set k.toNat (x.1, false) else l
def settledP (l : List Pg) : List Pg := l.map fun x => (x.2, x.2)
def backP (l : List Pg) : List Pg := l.map fun x => (x.1, x.1)
def stateP (l : List Pg) (k : Int) : Nat := match pgAt l k with | none => 0 | some x => pnum x
def freeP (l : List Pg) : Nat := l.countP fun x => pnum x == 0

theorem pgAt_nat {l : List Pg} {k : Nat} : pgAt l (k : Int) = l[k]? := by simp [pgAt]
theorem pgAt_some {l : List Pg} {k : Int} {x : Pg} (h : pgAt l k = some x) : ∃ n : Nat, k = n ∧ n < l.length ∧ l[n]? = some x := by
  unfold pgAt at h
  split at h
  · exact ⟨k.toNat, by omega, (List.getElem?_eq_some_iff.1 h).1, h⟩
  · cases h
theorem pgAt_none {l : List Pg} {k : Int} (h : pgAt l k = none) : k < 0 ∨ (l.length : Int) ≤ k := by
  unfold pgAt at h
  split at h
  · have := List.getElem?_eq_none_iff.1 h
    omega
  · omega
theorem freeP_le (l : List Pg) : freeP l ≤ l.length := List.countP_le_length

theorem least_some {l : List Pg} {k : Nat} (h : leastFree l = some k) : ∃ x, l[k]? = some x ∧ pnum x = 0 ∧ ∀ (j : Nat) (y : Pg), j < k → l[j]? = some y → pnum y ≠ 0 := by
  unfold leastFree at h
  obtain ⟨hk, h1, h2⟩ := List.findIdx?_eq_some_iff_getElem.1 h
  refine ⟨l[k], List.getElem?_eq_getElem hk, by simpa using h1, fun j y hj hy => ?_⟩
  have := h2 j hj
  rw [(List.getElem?_eq_some_iff.1 hy).2] at this
  simpa using this
theorem least_none {l : List Pg} (h : leastFree l = none) : ∀ (j : Nat) (y : Pg), l[j]? = some y → pnum y ≠ 0 := by
  intro j y hy
  unfold leastFree at h
  have := List.findIdx?_eq_none_iff.1 h y (List.mem_of_getElem? hy)
  simpa using this
theorem least_of {l : List Pg} {k : Nat} {x : Pg} (hx : l[k]? = some x) (h0 : pnum x = 0) (h : ∀ (j : Nat) (y : Pg), j < k → l[j]? = some y → pnum y ≠ 0) : leastFree l = some k := by
  unfold leastFree
  obtain ⟨hk, e⟩ := List.getElem?_eq_some_iff.1 hx
  refine List.findIdx?_eq_some_iff_getElem.2 ⟨hk, by simp [e, h0], fun j hj => ?_⟩
  have := h j _ hj (List.getElem?_eq_getElem (by omega))
  simpa using this
theorem least_of_none {l : List Pg} (h : ∀ (j : Nat) (y : Pg), l[j]? = some y → pnum y ≠ 0) : leastFree l = none := by
  unfold leastFree
  refine List.findIdx?_eq_none_iff.2 fun x hx => ?_
  obtain ⟨j, hj⟩ := List.getElem?_of_mem hx
  have := h j x hj
  simpa using this
end Go.Proofs.YtgekeemhbnhelaaGreat
namespace Go.Proofs.YtgekeemhbnhelaaGreat
open Go.RowKit

abbrev pv (x : Pg) : Value := .int .u8 (pnum x : Nat)
def pvs (l : List Pg) : List Value := l.map pv

/-- Pages lie in memory behind the pointer to block b, their states in block sb, within the footprint. -/
structure PgAt (w : World) (b sb : Nat) (l : List Pg) (F : Nat → Prop) : Prop where
  head : Cel w b [.slice (some ⟨sb, 0, none⟩) l.length l.length] 96
  row : Cel w sb (pvs l) 81
  fb : F b
  fs : F sb
  fl : ∀ q, F q → q < w.heap.size
  pos : 0 < l.length
  few : l.length ≤ 4096
def Pgs (w : World) (b : Nat) (l : List Pg) (F : Nat → Prop) : Prop := ∃ sb, PgAt w b sb l F

section
variable {w w' : World} {b sb : Nat} {l : List Pg} {F F' : Nat → Prop}

theorem PgAt.kept (h : PgAt w b sb l F) (hk : ∀ q, F q → w'.heap[q]? = w.heap[q]?) (hs : w.heap.size ≤ w'.heap.size) : PgAt w' b sb l F :=
  ⟨h.head.kept (hk b h.fb), h.row.kept (hk sb h.fs), h.fb, h.fs, fun q hq => Nat.lt_of_lt_of_le (h.fl q hq) hs, h.pos, h.few⟩
theorem Pgs.kept (h : Pgs w b l F) (hk : ∀ q, F q → w'.heap[q]? = w.heap[q]?) (hs : w.heap.size ≤ w'.heap.size) : Pgs w' b l F := let ⟨sb, h⟩ := h; ⟨sb, h.kept hk hs⟩
theorem Pgs.fl (h : Pgs w b l F) : ∀ q, F q → q < w.heap.size := let ⟨_, h⟩ := h; h.fl
theorem Pgs.fb (h : Pgs w b l F) : F b := let ⟨_, h⟩ := h; h.fb
theorem Pgs.pos (h : Pgs w b l F) : 0 < l.length := let ⟨_, h⟩ := h; h.pos
theorem Pgs.few (h : Pgs w b l F) : l.length ≤ 4096 := let ⟨_, h⟩ := h; h.few
theorem Pgs.below (h : Pgs w b l F) (hb : Below w.heap.size w w') : Pgs w' b l F := h.kept (fun q hq => hb.block q (h.fl q hq)) hb.size
theorem Pgs.other {S : Nat → Prop} (h : Pgs w b l F) (ho : Only S w w') (hd : ∀ q, F q → ¬ S q) : Pgs w' b l F := h.kept (fun q hq => ho.block q (h.fl q hq) (hd q hq)) ho.size
theorem Pgs.widen (h : Pgs w b l F) (hf : ∀ q, F q → F' q) (hs : ∀ q, F' q → q < w.heap.size) : Pgs w b l F' := let ⟨sb, h⟩ := h; ⟨sb, h.head, h.row, hf _ h.fb, hf _ h.fs, hs, h.pos, h.few⟩
theorem PgAt.top (h : PgAt w b sb l F) : w.cell? ⟨b, 0, none⟩ = some (.slice (some ⟨sb, 0, none⟩) l.length l.length) := by rw [h.head.cell]; rfl
theorem PgAt.at (h : PgAt w b sb l F) {k : Nat} {x : Pg} (hx : l[k]? = some x) : w.cell? ⟨sb, k, none⟩ = some (.int .u8 (pnum x : Nat)) ∧ w.frozen? ⟨sb, k, none⟩ = false := by
  refine ⟨?_, h.row.frozen k⟩
  rw [h.row.cell]
  simp [pvs, hx]
theorem PgAt.ne (h : PgAt w b sb l F) : b ≠ sb := fun e => by
  subst e
  have := (h.head.inj h.row).2
  cases this
/-- A page's state is written. -/
theorem PgAt.set (h : PgAt w b sb l F) (k : Nat) (x : Pg) : PgAt (w.setCell ⟨sb, k, none⟩ (pv x)) b sb (l.set k x) F where
  head := by
    rw [List.length_set]
    exact h.head.kept (Below.heap_setCell _ _ _ _ (fun e => h.ne e))
  row := by
    have := h.row.set k (pv x)
    unfold pvs at *
    rw [← List.map_set] at this
    exact this
  fb := h.fb
  fs := h.fs
  fl q hq := by have := h.fl q hq; simpa [World.setCell] using this
  pos := by rw [List.length_set]; exact h.pos
  few := by rw [List.length_set]; exact h.few
theorem PgAt.only (h : PgAt w b sb l F) (k : Nat) (u : Value) : Only F w (w.setCell ⟨sb, k, none⟩ u) := (Only.refl F w).setCell (p := ⟨sb, k, none⟩) (.inl h.fs) u
end
end Go.Proofs.YtgekeemhbnhelaaGreat
namespace Go.Proofs.YtgekeemhbnhelaaGreat
open Go.RowKit

section
variable {w : World} {b : Nat} {l : List Pg} {F : Nat → Prop}

/-- An error's number is answered, and the pages stand so. -/
def PSteps (w : World) (b : Nat) (F : Nat → Prop) (c : Int) (l : List Pg) (e : Ending) (w' : World) : Prop := e = .returned (err c) ∧ Pgs w' b l F ∧ Only F w w'

theorem known_no (h : Pgs w b l F) {k : Int} (hk : pgAt l k = none) : Calls Tryz.prog 63 #[ptr b, .int .i64 k] w fun e w' => e = .returned (err 1) ∧ w = w' := by
  obtain ⟨sb, h⟩ := h
  have c0 := h.top
  have hf := h.few
  have hk := pgAt_none hk
  by_cases h0 : k < 0
  · clear h hk
    go_enter Tryz.func63, Tryz.ntmps63
    go_wp2
    go_ret
    exact ⟨rfl, rfl⟩
  · have h1 : decide (k < 0) = false := by simp; omega
    have h2 : (l.length : Int) ≤ k := by omega
    clear h hk h0
    go_enter Tryz.func63, Tryz.ntmps63
    go_wp2
    go_ret
    exact ⟨rfl, rfl⟩

theorem known_yes (h : Pgs w b l F) (k : Nat) (hk : k < l.length) : Calls Tryz.prog 63 #[ptr b, .int .i64 (k : Int)] w fun e w' => e = .returned (err 0) ∧ w = w' := by
  obtain ⟨sb, h⟩ := h
  have c0 := h.top
  have hf := h.few
  have h1 : decide ((k : Int) < 0) = false := by simp
  have h2 : decide ((l.length : Int) ≤ k) = false := by simp; omega
  clear h
  go_enter Tryz.func63, Tryz.ntmps63
  go_wp2
  go_ret
  exact ⟨rfl, rfl⟩

/-! ### nil -/
/-! ### what only reads -/
theorem pgsize_any (h : Pgs w b l F) : Calls Tryz.prog 48 #[ptr b] w fun e w' => e = .returned (.int .i64 (l.length : Nat)) ∧ w = w' := by
  obtain ⟨sb, h⟩ := h
  have c0 := h.top
  clear h
  go_enter Tryz.func48, Tryz.ntmps48
  go_wp2
  go_ret
  exact ⟨rfl, rfl⟩

theorem state_any (h : Pgs w b l F) (k : Int) : Calls Tryz.prog 33 #[ptr b, .int .i64 k] w fun e w' => e = .returned (.int .u8 (stateP l k : Nat)) ∧ w = w' := by
  unfold stateP
  rcases hk : pgAt l k with _ | x
  · go_enter Tryz.func33, Tryz.ntmps33
    go_wp2_with fail
    refine (known_no h hk).mono ?_
    rintro e w1 ⟨rfl, rfl⟩
    go_wp2
    go_ret
    exact ⟨rfl, rfl⟩
  · obtain ⟨n, rfl, hn, hx⟩ := pgAt_some hk
    have h0 := h
    obtain ⟨sb, h⟩ := h
    have c0 := h.top
    obtain ⟨c1, _⟩ := h.at hx
    have hf := h.few
    have hlt : (n : Int) < (l.length : Int) := by omega
    simp only
    clear h hk hx
    generalize pnum x = p at *
    go_enter Tryz.func33, Tryz.ntmps33
    go_wp2_with fail
    refine (known_yes h0 n hn).mono ?_
    rintro e w1 ⟨rfl, rfl⟩
    go_wp2
    go_ret
    exact ⟨rfl, rfl⟩

set_option maxHeartbeats 400000 in
theorem pgfree_any (h : Pgs w b l F) : Calls Tryz.prog 18 #[ptr b] w fun e w' => e = .returned (.int .i64 (freeP l : Nat)) ∧ w = w' := by
  obtain ⟨sb, h⟩ := h
  have c0 := h.top
  have hf := h.few
  have HH := Lib.hid h
  clear h
  go_enter Tryz.func18, Tryz.ntmps18
  go_wp2
  go_loopw [3, 5, 13] (fun n _ i wr => ∃ j : Nat, j ≤ l.length ∧ i = .int .i64 j ∧ n = .int .i64 (freeP (l.take j) : Nat) ∧ wr = w) (fun _ _ i _ => l.length - (intOf i).toNat)
  case atStart => exact ⟨0, Nat.zero_le _, rfl, rfl, rfl⟩
  case round =>
    obtain ⟨j, hj, rfl, rfl, rfl⟩ := hrel
    by_cases hlt : j < l.length
    · obtain ⟨x, hx⟩ : ∃ x, l[j]? = some x := ⟨_, List.getElem?_eq_getElem hlt⟩
      obtain ⟨c1, _⟩ := HH.out.at hx
      have hil : (j : Int) < (l.length : Int) := by omega
      have hle : freeP (l.take j) ≤ 4096 := by
        have := freeP_le (l.take j)
        rw [List.length_take] at this
        omega
      have hs : freeP (l.take (j + 1)) = freeP (l.take j) + if pnum x = 0 then 1 else 0 := by
        unfold freeP
        rw [List.take_add_one, hx, List.countP_append]
        simp
      by_cases hp : pnum x = 0
      · rw [if_pos hp] at hs
        rw [hp] at c1
        have HS := Lib.hid hs
        clear hs hx hp
        generalize freeP (l.take j) = m at *
        go_wp2
        go_roundw
        case rel => exact ⟨j + 1, by omega, by go_num, by rw [HS.out]; go_num, by trivial⟩
        case measure => simp [intOf]; omega
      · rw [if_neg hp] at hs
        have HS := Lib.hid hs
        have hp' : ((pnum x : Nat) : Int) ≠ 0 := by omega
        have hpb : (((pnum x : Nat) : Int) == 0) = false := by simpa using hp
        clear hs hx hp
        generalize freeP (l.take j) = m at *
        generalize pnum x = p at *
        go_wp2
        go_roundw
        case rel => exact ⟨j + 1, by omega, by go_num, by rw [HS.out]; go_num, by trivial⟩
        case measure => simp [intOf]; omega
    · obtain rfl : j = l.length := by omega
      rw [List.take_length]
      go_wp2
      go_ret
      exact ⟨rfl, rfl⟩
end
end Go.Proofs.YtgekeemhbnhelaaGreat
namespace Go.Proofs.YtgekeemhbnhelaaGreat
open Go.RowKit

section
variable {w : World} {b sb : Nat} {l : List Pg} {F : Nat → Prop}

set_option maxHeartbeats 400000 in
theorem index_any (h : PgAt w b sb l F) : Calls Tryz.prog 150 #[.slice (some ⟨sb, 0, none⟩) l.length l.length, .int .u8 0] w
    fun e w' => e = .returned (.int .i64 (ixP l)) ∧ w = w' := by
  have hf := h.few
  have HH := Lib.hid h
  clear h
  go_enter Tryz.func150, Tryz.ntmps150
  go_wp2
  go_loopw [5, 8] (fun _ i wr => ∃ j : Nat, j ≤ l.length ∧ i = .int .i64 j ∧ (∀ (q : Nat) (y : Pg), q < j → l[q]? = some y → pnum y ≠ 0) ∧ wr = w) (fun _ i _ => l.length - (intOf i).toNat)
  case atStart => exact ⟨0, Nat.zero_le _, rfl, fun q y hq => absurd hq (Nat.not_lt_zero _), rfl⟩
  case round =>
    obtain ⟨j, hj, rfl, hall, rfl⟩ := hrel
    by_cases hlt : j < l.length
    · obtain ⟨x, hx⟩ : ∃ x, l[j]? = some x := ⟨_, List.getElem?_eq_getElem hlt⟩
      obtain ⟨c1, _⟩ := HH.out.at hx
      have hil : (j : Int) < (l.length : Int) := by omega
      by_cases hp : pnum x = 0
      · have hr := ixP_some (least_of hx hp hall)
        rw [hp] at c1
        have HR := Lib.hid hr
        clear hr hx hp hall
        go_wp2
        go_ret
        exact ⟨by rw [HR.out]; rfl, rfl⟩
      · have HS := Lib.hid (show ∀ (q : Nat) (y : Pg), q < j + 1 → l[q]? = some y → pnum y ≠ 0 from fun q y hq hy => by
          by_cases e : q = j
          · subst e
            rw [hx] at hy
            cases hy
            exact hp
          · exact hall q y (by omega) hy)
        have hpb : ((0 : Int) == ((pnum x : Nat) : Int)) = false := by rw [beq_eq_false_iff_ne]; omega
        have hpn : ¬ (0 : Int) = ((pnum x : Nat) : Int) := by omega
        clear hx hp hall
        generalize pnum x = p at *
        go_wp2
        go_roundw
        case rel => exact ⟨j + 1, by omega, by go_num, HS.out, by trivial⟩
        case measure => simp [intOf]; omega
    · obtain rfl : j = l.length := by omega
      have hr := ixP_none (least_of_none (l := l) (fun q y hy => hall q y (List.getElem?_eq_some_iff.1 hy).1 hy))
      have HR := Lib.hid hr
      clear hr hall
      go_wp2
      go_ret
      exact ⟨by rw [HR.out]; rfl, rfl⟩

set_option maxHeartbeats 400000 in
theorem pgtake_any (h : Pgs w b l F) : Calls Tryz.prog 131 #[ptr b] w fun e w' => e = .returned (.tuple #[.int .i64 (tpage l), err (tcode l)]) ∧ Pgs w' b (tdone l) F ∧ Only F w w' := by
  obtain ⟨sb, h⟩ := h
  have hix := index_any h
  have c0 := h.top
  have hf := h.few
  unfold tpage tcode tdone
  rcases hl : leastFree l with _ | k
  · rw [ixP_none hl] at hix
    have HH := Lib.hid (show Pgs w b l F ∧ Only F w w from ⟨⟨sb, h⟩, Only.refl _ _⟩)
    clear h hl
    go_enter Tryz.func131, Tryz.ntmps131
    go_wp2_with fail
    refine hix.mono ?_
    rintro e w1 ⟨rfl, rfl⟩
    go_wp2
    go_ret2
    exact ⟨rfl, HH.out⟩
  · rw [ixP_some hl] at hix
    obtain ⟨x, hx, _⟩ := least_some hl
    obtain ⟨c1, f1⟩ := h.at hx
    have hk := (List.getElem?_eq_some_iff.1 hx).1
    have hs := h.set k (false, true)
    have HH := Lib.hid (show Pgs (w.setCell ⟨sb, k, none⟩ (.int .u8 2)) b (l.set k (false, true)) F ∧ Only F w (w.setCell ⟨sb, k, none⟩ (.int .u8 2)) from ⟨⟨sb, hs⟩, h.only k _⟩)
    have h0 : ¬ (k : Int) < 0 := by omega
    have hd0 : decide ((k : Int) < 0) = false := by simp
    have hlt : (k : Int) < (l.length : Int) := by omega
    clear h hl hx hs
    simp only at hix ⊢
    go_enter Tryz.func131, Tryz.ntmps131
    go_wp2_with fail
    refine hix.mono ?_
    rintro e w1 ⟨rfl, rfl⟩
    go_wp2
    go_ret2
    exact ⟨rfl, HH.out⟩

set_option maxHeartbeats 400000 in
theorem drop_any (h : Pgs w b l F) (k : Int) : Calls Tryz.prog 99 #[ptr b, .int .i64 k] w (PSteps w b F (rcode l k) (rdone l k)) := by
  unfold rcode rdone PSteps
  have h0 := h
  rcases hk : pgAt l k with _ | x
  · have HH := Lib.hid h
    go_enter Tryz.func99, Tryz.ntmps99
    go_wp2_with fail
    refine (known_no h hk).mono ?_
    rintro e w1 ⟨rfl, rfl⟩
    go_wp2
    go_ret
    exact ⟨rfl, HH.out, Only.refl _ _⟩
  · obtain ⟨n, rfl, hn, hx⟩ := pgAt_some hk
    obtain ⟨sb, h⟩ := h
    have c0 := h.top
    obtain ⟨c1, f1⟩ := h.at hx
    have hf := h.few
    have hlt : (n : Int) < (l.length : Int) := by omega
    have hs0 := h.set n (false, false)
    have hs3 := h.set n (true, false)
    have HH := Lib.hid (And.intro h0 (And.intro (show Pgs (w.setCell ⟨sb, n, none⟩ (.int .u8 0)) b (l.set n (false, false)) F ∧ Only F w (w.setCell ⟨sb, n, none⟩ (.int .u8 0)) from ⟨⟨sb, hs0⟩, h.only n _⟩)
      (show Pgs (w.setCell ⟨sb, n, none⟩ (.int .u8 3)) b (l.set n (true, false)) F ∧ Only F w (w.setCell ⟨sb, n, none⟩ (.int .u8 3)) from ⟨⟨sb, hs3⟩, h.only n _⟩)))
    simp only [Int.toNat_natCast]
    clear h hk hx hs0 hs3
    rcases x with ⟨_ | _, _ | _⟩ <;> simp only [pnum] at c1 <;> simp only [if_true, Bool.false_eq_true, if_false]
    · go_enter Tryz.func99, Tryz.ntmps99
      go_wp2_with fail
      refine (known_yes h0 n hn).mono ?_
      rintro e w1 ⟨rfl, rfl⟩
      go_wp2
      go_ret
      exact ⟨rfl, HH.out.1, Only.refl _ _⟩
    · go_enter Tryz.func99, Tryz.ntmps99
      go_wp2_with fail
      refine (known_yes h0 n hn).mono ?_
      rintro e w1 ⟨rfl, rfl⟩
      go_wp2
      go_ret
      exact ⟨rfl, HH.out.2.1⟩
    · go_enter Tryz.func99, Tryz.ntmps99
      go_wp2_with fail
      refine (known_yes h0 n hn).mono ?_
      rintro e w1 ⟨rfl, rfl⟩
      go_wp2
      go_ret
      exact ⟨rfl, HH.out.1, Only.refl _ _⟩
    · go_enter Tryz.func99, Tryz.ntmps99
      go_wp2_with fail
      refine (known_yes h0 n hn).mono ?_
      rintro e w1 ⟨rfl, rfl⟩
      go_wp2
      go_ret
      exact ⟨rfl, HH.out.2.2⟩

/-- The first j pages have ended. -/
def endsTo (f : Pg → Pg) (l : List Pg) (j : Nat) : List Pg := (l.take j).map f ++ l.drop j
theorem endsTo_length (f : Pg → Pg) (l : List Pg) (j : Nat) : (endsTo f l j).length = l.length := by simp [endsTo]; omega
theorem endsTo_at (f : Pg → Pg) {l : List Pg} {j : Nat} {x : Pg} (h : l[j]? = some x) : (endsTo f l j)[j]? = some x := by
  have hj := (List.getElem?_eq_some_iff.1 h).1
  unfold endsTo
  rw [List.getElem?_append_right (by simp only [List.length_map, List.length_take]; omega)]
  simp [Nat.min_eq_left (Nat.le_of_lt hj), h]
theorem endsTo_set (f : Pg → Pg) {l : List Pg} {j : Nat} {x : Pg} (h : l[j]? = some x) : (endsTo f l j).set j (f x) = endsTo f l (j + 1) := by
  have hj := (List.getElem?_eq_some_iff.1 h).1
  have hx := (List.getElem?_eq_some_iff.1 h).2
  unfold endsTo
  rw [List.set_append_right _ _ (by simp only [List.length_map, List.length_take]; omega)]
  have e1 : j - ((l.take j).map f).length = 0 := by simp only [List.length_map, List.length_take]; omega
  rw [e1, List.drop_eq_getElem_cons hj, List.set_cons_zero, List.take_add_one, h]
  simp
theorem endsTo_same (f : Pg → Pg) {l : List Pg} {j : Nat} {x : Pg} (h : l[j]? = some x) (hf : f x = x) : endsTo f l (j + 1) = endsTo f l j := by
  rw [← endsTo_set f h, hf]
  have := endsTo_at f h
  obtain ⟨hl, e⟩ := List.getElem?_eq_some_iff.1 this
  conv => lhs; rw [← e]
  exact List.set_getElem_self hl
theorem endsTo_all (f : Pg → Pg) (l : List Pg) : endsTo f l l.length = l.map f := by simp [endsTo]
theorem endsTo_zero (f : Pg → Pg) (l : List Pg) : endsTo f l 0 = l := by simp [endsTo]

/-- What Settle and Back make of each. -/
def endsAs (p q : Nat) (f : Pg → Pg) : Prop := p = pnum (f (false, true)) ∧ q = pnum (f (true, false)) ∧ f (false, false) = (false, false) ∧ f (true, true) = (true, true)

set_option maxHeartbeats 800000 in
theorem pgend_any (h : Pgs w b l F) (p q : Nat) (f : Pg → Pg) (hfs : endsAs p q f) : Calls Tryz.prog 41 #[ptr b, .int .u8 (p : Int), .int .u8 (q : Int)] w (PSteps w b F 0 (l.map f)) := by
  unfold PSteps
  obtain ⟨sb, h⟩ := h
  have c0 := h.top
  have hf := h.few
  have HH := Lib.hid (And.intro h hfs)
  clear h hfs
  go_enter Tryz.func41, Tryz.ntmps41
  go_wp2
  clear c0
  go_loopw [7, 8, 16] (fun _ _ i wr => ∃ j : Nat, j ≤ l.length ∧ i = .int .i64 j ∧ PgAt wr b sb (endsTo f l j) F ∧ Only F w wr) (fun _ _ i _ => l.length - (intOf i).toNat)
  case atStart => exact ⟨0, Nat.zero_le _, rfl, by rw [endsTo_zero]; exact HH.out.1, Only.refl _ _⟩
  case round =>
    obtain ⟨j, hj, rfl, hpg, hon⟩ := hrel
    by_cases hlt : j < l.length
    · obtain ⟨x, hx⟩ : ∃ x, l[j]? = some x := ⟨_, List.getElem?_eq_getElem hlt⟩
      have c0 := hpg.top
      rw [endsTo_length] at c0
      obtain ⟨c1, f1⟩ := hpg.at (endsTo_at f hx)
      have hil : (j : Int) < (l.length : Int) := by omega
      have hsame := fun (e : f x = x) => endsTo_same f hx e
      have hset := endsTo_set f hx
      have hs := hpg.set j (f x)
      rw [hset] at hs
      have ho := hon.trans (hpg.only j (pv (f x)))
      obtain ⟨e1, e2, e3, e4⟩ := HH.out.2
      have H2 := Lib.hid (And.intro hpg (And.intro hon (And.intro hs ho)))
      clear hpg hon hs ho hset hx
      rcases x with ⟨_ | _, _ | _⟩
      · have h3 := Lib.hid (hsame e3)
        clear hsame e1 e2 e3 e4
        simp only [pnum] at c1
        go_wp2
        go_roundw
        case rel => exact ⟨j + 1, by omega, by go_num, by rw [h3.out]; exact H2.out.1, H2.out.2.1⟩
        case measure => simp [intOf]; omega
      · have h3 := Lib.hid e1
        clear hsame e1 e2 e3 e4
        simp only [pnum] at c1
        go_wp2
        go_roundw
        case rel => exact ⟨j + 1, by omega, by go_num, by have := H2.out.2.2.1; unfold pv at this; rw [← h3.out] at this; exact this, by have := H2.out.2.2.2; unfold pv at this; rw [← h3.out] at this; exact this⟩
        case measure => simp [intOf]; omega
      · have h3 := Lib.hid e2
        clear hsame e1 e2 e3 e4
        simp only [pnum] at c1
        go_wp2
        go_roundw
        case rel => exact ⟨j + 1, by omega, by go_num, by have := H2.out.2.2.1; unfold pv at this; rw [← h3.out] at this; exact this, by have := H2.out.2.2.2; unfold pv at this; rw [← h3.out] at this; exact this⟩
        case measure => simp [intOf]; omega
      · have h3 := Lib.hid (hsame e4)
        clear hsame e1 e2 e3 e4
        simp only [pnum] at c1
        go_wp2
        go_roundw
        case rel => exact ⟨j + 1, by omega, by go_num, by rw [h3.out]; exact H2.out.1, H2.out.2.1⟩
        case measure => simp [intOf]; omega
    · obtain rfl : j = l.length := by omega
      rw [endsTo_all] at hpg
      have H2 := Lib.hid (And.intro hpg hon)
      clear hpg hon
      go_wp2
      go_ret
      exact ⟨rfl, ⟨sb, H2.out.1⟩, H2.out.2⟩

theorem settle_any (h : Pgs w b l F) : Calls Tryz.prog 11 #[ptr b] w (PSteps w b F 0 (settledP l)) := by
  have he := pgend_any h 1 0 (fun x => (x.2, x.2)) ⟨rfl, rfl, rfl, rfl⟩
  go_enter Tryz.func11, Tryz.ntmps11
  go_wp2_with fail
  refine he.mono ?_
  rintro e w1 ⟨rfl, hp, ho⟩
  clear he
  go_wp2
  go_ret
  exact ⟨rfl, hp, ho⟩
theorem back_any (h : Pgs w b l F) : Calls Tryz.prog 25 #[ptr b] w (PSteps w b F 0 (backP l)) := by
  have he := pgend_any h 0 1 (fun x => (x.1, x.1)) ⟨rfl, rfl, rfl, rfl⟩
  go_enter Tryz.func25, Tryz.ntmps25
  go_wp2_with fail
  refine he.mono ?_
  rintro e w1 ⟨rfl, hp, ho⟩
  clear he
  go_wp2
  go_ret
  exact ⟨rfl, hp, ho⟩
end
end Go.Proofs.YtgekeemhbnhelaaGreat
namespace Go.Proofs.YtgekeemhbnhelaaGreat
open Go.RowKit

/-- All free. -/
def freshP (n : Nat) : List Pg := List.replicate n (false, false)
theorem freshP_length (n : Nat) : (freshP n).length = n := List.length_replicate
theorem st_info : (Tryz.prog.info? 81).map (fun i => (i.zero, i.size, i.bytes)) = some (some (.int .u8 0), 1, 1) := by kernel_rfl
theorem made_sts (n : Nat) : (madeCells (Value.int .u8 0).cells (n * 1)).toList = pvs (freshP n) := by
  apply List.ext_getElem?
  intro j
  by_cases hj : j < n
  · simp [madeCells, hj, Value.cells, Nat.mod_one, pvs, freshP, pv, pnum]
  · simp [madeCells, hj, pvs, freshP]

/-- New pages, of the call's own. -/
def PNews (w : World) (n : Nat) (e : Ending) (w' : World) : Prop :=
  ∃ b, e = .returned (.tuple #[ptr b, err 0]) ∧ Pgs w' b (freshP n) (fun q => w.heap.size ≤ q ∧ q < w'.heap.size) ∧ Below w.heap.size w w'

theorem pgnew_ok (n : Nat) (w : World) (h1 : 1 ≤ n) (h2 : n ≤ 4096) : Calls Tryz.prog 39 #[.int .i64 (n : Int)] w (PNews w n) := by
  obtain ⟨i0, hi, hz0, hz1, hz2⟩ := info_parts st_info
  obtain ⟨w1, hmk, o1, g1⟩ := run_make_full (P := Tryz.prog) w w.heap.size 94 81 i0 (.int .u8 0) 1 Tryz.underlying94 hi hz0 hz1 .i64 .i64 n (by rw [hz2]; omega) (by unfold maxLen; omega) (Nat.le_refl _)
  have c1 : Cel w1 w.heap.size (pvs (freshP n)) 81 := by
    rcases o1.2 with ⟨h, _⟩ | ⟨g, cap, cur, hv, _, hg, _, _, hs, ht⟩
    · cases h
    · simp only [Value.slice.injEq, Option.some.injEq, Addr.mk.injEq] at hv
      obtain ⟨⟨rfl, _⟩, _, rfl⟩ := hv
      rw [List.take_of_length_le (by simp [hs])] at ht
      rw [made_sts] at ht
      unfold Cel
      rw [← ht]
      simpa using hg
  have hb1 : Below w.heap.size w w1 := (Below.refl _ _).grown g1 (Nat.le_refl _) (fun _ h => by cases h)
  have hsz := c1.lt
  have t1 : decide ((n : Int) < 1) = false := by simp; omega
  have t2 : decide ((4096 : Int) < (n : Int)) = false := by simp; omega
  have H := Lib.hid (And.intro (And.intro h1 h2) (And.intro hb1 (And.intro hsz c1)))
  clear o1 g1 c1 hb1 hi hz0 hz1 hz2 h1 h2 hsz
  go_enter Tryz.func39, Tryz.ntmps39
  go_wp2
  go_ret2
  obtain ⟨⟨h1, h2⟩, hb1, hsz, c1⟩ := H.out
  refine ⟨w1.heap.size, rfl, ⟨w.heap.size, ?_, c1.alloc _, ⟨by omega, by simp⟩, ⟨by omega, by simp; omega⟩, fun q hq => hq.2, by rw [freshP_length]; exact h1, by rw [freshP_length]; exact h2⟩, hb1.alloc hb1.size _⟩
  rw [freshP_length]
  exact Cel.new w1 _ _
end Go.Proofs.YtgekeemhbnhelaaGreat
