/- A journal's head in memory, and its small functions: Blocks, Free, the place of a spot, Mark, hold, Forget; conditions: the sizes that each contract names. -/
import Derived.Test.YtijkkkiejdaljaaJrWrites
import Derived.Test.YtijkkkiejdaljaaBlkAny
namespace Go.Proofs.Ytijkkkiejdaljaa
open Go.RowKit

abbrev spotV (t : Spot) : Value := .agg #[.int .i64 (t.1 : Int), .int .u64 (t.2 : Int)]
abbrev spotL (t : Spot) : List Value := [.int .i64 (t.1 : Int), .int .u64 (t.2 : Int)]
abbrev jnL (b : Nat) (J : Jn) : List Value := [ptr b, .int .i64 (J.fr : Int), .int .i64 (J.size : Int), .int .i64 (J.at_ : Int), .int .u64 (J.seq : Int), .int .u64 (J.held : Int), .int .i64 (J.ahead : Int), .int .u64 (J.sum : Int), .bool J.dead]
/-- A journal's head lies in block jb; its device is b. -/
def JAt (w : World) (jb b : Nat) (J : Jn) : Prop := Cel w jb (jnL b J) 67

/-- Its numbers are within their bounds. -/
structure Jn.Fit (J : Jn) : Prop where
  atl : J.at_ < J.size
  few : J.size ≤ 4096
  frl : J.fr ≤ 4096
  ahl : J.ahead ≤ J.size
  sql : J.seq + J.held < 18446744073709551616
  sml : J.sum < 18446744073709551616

section
variable {w w' : World} {jb b : Nat} {J : Jn}
theorem JAt.kept (h : JAt w jb b J) (hk : w'.heap[jb]? = w.heap[jb]?) : JAt w' jb b J := Cel.kept h hk
theorem JAt.lt (h : JAt w jb b J) : jb < w.heap.size := Cel.lt h
theorem JAt.below (h : JAt w jb b J) (hb : Below w.heap.size w w') : JAt w' jb b J := h.kept (hb.block jb h.lt)
theorem JAt.only {S : Nat → Prop} (h : JAt w jb b J) (ho : Only S w w') (hs : ¬ S jb) : JAt w' jb b J := h.kept (ho.block jb h.lt hs)
theorem JAt.alloc (h : JAt w jb b J) (o : Obj) : JAt (w.alloc o) jb b J := h.below ((Below.refl _ _).alloc (Nat.le_refl _) _)
theorem JAt.cells (h : JAt w jb b J) : w.cell? ⟨jb, 0, none⟩ = some (ptr b) ∧ w.cell? ⟨jb, 1, none⟩ = some (.int .i64 (J.fr : Int)) ∧ w.cell? ⟨jb, 2, none⟩ = some (.int .i64 (J.size : Int)) ∧
    w.cell? ⟨jb, 3, none⟩ = some (.int .i64 (J.at_ : Int)) ∧ w.cell? ⟨jb, 4, none⟩ = some (.int .u64 (J.seq : Int)) ∧ w.cell? ⟨jb, 5, none⟩ = some (.int .u64 (J.held : Int)) ∧
    w.cell? ⟨jb, 6, none⟩ = some (.int .i64 (J.ahead : Int)) ∧ w.cell? ⟨jb, 7, none⟩ = some (.int .u64 (J.sum : Int)) ∧ w.cell? ⟨jb, 8, none⟩ = some (.bool J.dead) := by
  refine ⟨?_, ?_, ?_, ?_, ?_, ?_, ?_, ?_, ?_⟩ <;> rw [Cel.cell h] <;> rfl

theorem blocks_any (n : Int) (w : World) (h1 : -9223372036854775808 ≤ n) (h2 : n ≤ 9223372036854775807) : Calls Try.prog 26 #[.int .i64 n] w fun e w' => e = .returned (.int .i64 (nBlocks n.toNat : Nat)) ∧ w = w' := by
  have hn : ((nBlocks n.toNat : Nat) : Int) = (max n 1 - 1) / 480 + 2 := by
    unfold nBlocks nPieces
    omega
  rw [hn]
  go_enter Try.func26, Try.ntmps26
  go_wp2
  go_ret
  exact ⟨rfl, rfl⟩

theorem free_any (h : JAt w jb b J) (hJ : J.Fit) : Calls Try.prog 25 #[ptr jb] w fun e w' => e = .returned (.int .i64 ((J.size : Int) - (J.ahead : Int))) ∧ ∃ m, w' = w.drewN m := by
  obtain ⟨_, _, c2, _, _, _, c6, _, _⟩ := h.cells
  have h1 := hJ.few
  have h2 := hJ.ahl
  clear h hJ
  go_enter Try.func25, Try.ntmps25
  go_wp2
  go_quiet (fail)
  go_wp2
  go_ret
  exact ⟨rfl, _, rfl⟩
theorem free_nil (w : World) : Calls Try.prog 25 #[.pointer none] w fun e w' => e = .returned (.int .i64 0) ∧ w = w' := by
  go_enter Try.func25, Try.ntmps25
  go_wp2
  go_ret
  exact ⟨rfl, rfl⟩

theorem place_any (h : JAt w jb b J) (ha : J.at_ < J.size) (hs : J.size ≤ 4096) (t : Spot) (ht : t.1 ≤ J.size) :
    Calls Try.prog 39 #[ptr jb, spotV t] w fun e w' => e = .returned (.int .i64 (ringAt J.at_ J.size t.1 : Nat)) ∧ Below w.heap.size w w' := by
  have hb := h.alloc (.cells #[.int .i64 (t.1 : Int), .int .u64 (t.2 : Int)] 65)
  obtain ⟨_, _, c2, c3, _⟩ := hb.cells
  have hbl := (Below.refl w.heap.size w).alloc (Nat.le_refl _) (.cells #[.int .i64 (t.1 : Int), .int .u64 (t.2 : Int)] 65)
  have HB := Lib.hid hbl
  clear h hb hbl
  by_cases hle : J.size ≤ J.at_ + t.1
  · have hr : ((ringAt J.at_ J.size t.1 : Nat) : Int) = (J.at_ : Int) + (t.1 : Int) - (J.size : Int) := by unfold ringAt; rw [if_pos hle]; omega
    rw [hr]
    have hle' : (J.size : Int) ≤ (J.at_ : Int) + (t.1 : Int) := by omega
    clear hr hle
    go_enter Try.func39, Try.ntmps39
    go_wp2
    go_quiet (fail)
    go_wp2
    go_ret
    exact ⟨rfl, below_drewN HB.out _⟩
  · have hr : ((ringAt J.at_ J.size t.1 : Nat) : Int) = (J.at_ : Int) + (t.1 : Int) := by unfold ringAt; rw [if_neg hle]; omega
    rw [hr]
    have hle' : (J.at_ : Int) + (t.1 : Int) < (J.size : Int) := by omega
    clear hr hle
    go_enter Try.func39, Try.ntmps39
    go_wp2
    go_quiet (fail)
    go_wp2
    go_ret
    exact ⟨rfl, below_drewN HB.out _⟩
end
end Go.Proofs.Ytijkkkiejdaljaa
