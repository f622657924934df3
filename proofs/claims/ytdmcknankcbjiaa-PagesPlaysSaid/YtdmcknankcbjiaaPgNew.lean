/- New of package pages and of the document's: all free, or why not; no condition. -/
import Derived.Test.YtdmcknankcbjiaaPgTurn
import Derived.Carry
namespace Go.Proofs.Ytdmcknankcbjiaa
open Go.RowKit

theorem pgnew_no (n : Int) (w : World) (hn : n < 1 ∨ 4096 < n) : Calls Try.prog 8 #[.int .i64 n] w fun e w' => e = .returned (.tuple #[.pointer none, err 1]) ∧ w = w' := by
  by_cases h0 : n < 1
  · clear hn
    go_enter Try.func8, Try.ntmps8
    go_wp2
    go_ret2
    exact ⟨rfl, rfl⟩
  · have h1 : 4096 < n := by omega
    have hd : decide (n < 1) = false := by simp; omega
    clear hn h0
    go_enter Try.func8, Try.ntmps8
    go_wp2
    go_ret2
    exact ⟨rfl, rfl⟩

/-- All free. -/
def freshP (n : Nat) : List Pg := List.replicate n (false, false)
theorem freshP_length (n : Nat) : (freshP n).length = n := List.length_replicate
theorem freshP_at {n k : Nat} {x : Pg} (h : (freshP n)[k]? = some x) : x = (false, false) ∧ k < n := by
  unfold freshP at h
  rw [List.getElem?_replicate] at h
  split at h
  · simp only [Option.some.injEq] at h
    exact ⟨h.symm, by assumption⟩
  · cases h

theorem st_info : (Try.prog.info? 51).map (fun i => (i.zero, i.size, i.bytes)) = some (some (.int .u8 0), 1, 1) := by kernel_rfl
theorem made_sts (n : Nat) : (madeCells (Value.int .u8 0).cells (n * 1)).toList = pvs (freshP n) := by
  apply List.ext_getElem?
  intro j
  by_cases hj : j < n
  · simp [madeCells, hj, Value.cells, Nat.mod_one, pvs, freshP, pv, pnum]
  · simp [madeCells, hj, pvs, freshP]

/-- New pages, of the call's own. -/
def PNews (w : World) (n : Nat) (e : Ending) (w' : World) : Prop :=
  ∃ b, e = .returned (.tuple #[ptr b, err 0]) ∧ Pgs w' b (freshP n) (fun q => w.heap.size ≤ q ∧ q < w'.heap.size) ∧ Below w.heap.size w w'

theorem pgnew_ok (n : Nat) (w : World) (h1 : 1 ≤ n) (h2 : n ≤ 4096) : Calls Try.prog 8 #[.int .i64 (n : Int)] w (PNews w n) := by
  obtain ⟨i0, hi, hz0, hz1, hz2⟩ := info_parts st_info
  obtain ⟨w1, hmk, o1, g1⟩ := run_make_full (P := Try.prog) w w.heap.size 45 51 i0 (.int .u8 0) 1 Try.underlying45 hi hz0 hz1 .i64 .i64 n (by rw [hz2]; omega) (by unfold maxLen; omega) (Nat.le_refl _)
  have c1 : Cel w1 w.heap.size (pvs (freshP n)) 51 := by
    rcases o1.2 with ⟨h, _⟩ | ⟨g, cap, cur, hv, _, hg, _, _, hs, ht⟩
    · cases h
    · simp only [Value.slice.injEq, Option.some.injEq, Addr.mk.injEq] at hv
      obtain ⟨⟨rfl, _⟩, _, rfl⟩ := hv
      rw [List.take_of_length_le (by simp [hs])] at ht
      rw [made_sts] at ht
      unfold Cel
      rw [← ht]
      simpa using hg
  have hb1 : Below w.heap.size w w1 := (Below.refl _ _).grown g1 (Nat.le_refl _) (fun _ h => by cases h)
  have hsz := c1.lt
  have t1 : decide ((n : Int) < 1) = false := by simp; omega
  have t2 : decide ((4096 : Int) < (n : Int)) = false := by simp; omega
  have H := Lib.hid (And.intro (And.intro h1 h2) (And.intro hb1 (And.intro hsz c1)))
  clear o1 g1 c1 hb1 hi hz0 hz1 hz2 h1 h2 hsz
  go_enter Try.func8, Try.ntmps8
  go_wp2
  go_ret2
  obtain ⟨⟨h1, h2⟩, hb1, hsz, c1⟩ := H.out
  refine ⟨w1.heap.size, rfl, ⟨w.heap.size, ?_, c1.alloc _, ⟨by omega, by simp⟩, ⟨by omega, by simp; omega⟩, fun q hq => hq.2, by rw [freshP_length]; exact h1, by rw [freshP_length]; exact h2⟩, hb1.alloc hb1.size _⟩
  rw [freshP_length]
  exact Cel.new w1 _ _

theorem rpnew_no (n : Int) (w : World) (hn : n < 1 ∨ 4096 < n) : Calls Try.prog 9 #[.int .i64 n] w fun e w' => e = .returned (.tuple #[.pointer none, err 1]) ∧ w = w' := by
  by_cases h0 : n < 1
  · clear hn
    go_enter Try.func9, Try.ntmps9
    go_wp2
    go_ret2
    exact ⟨rfl, rfl⟩
  · have h1 : 4096 < n := by omega
    have hd : decide (n < 1) = false := by simp; omega
    clear hn h0
    go_enter Try.func9, Try.ntmps9
    go_wp2
    go_ret2
    exact ⟨rfl, rfl⟩

theorem bool_info : (Try.prog.info? 4).map (fun i => (i.zero, i.size, i.bytes)) = some (some (.bool false), 1, 1) := by kernel_rfl
theorem made_bools (n : Nat) : (madeCells (Value.bool false).cells (n * 1)).toList = bools (List.replicate n false) := by
  apply List.ext_getElem?
  intro j
  by_cases hj : j < n
  · simp [madeCells, hj, Value.cells, Nat.mod_one, bools]
  · simp [madeCells, hj, bools]

/-- make([]bool, n). -/
theorem run_bools (w : World) (kl kc : IntKind) (n : Nat) (hn : n ≤ 140737488355328) :
    ∃ w', (Instr.makeSlice 41 (.int kl (n : Int)) (.int kc (n : Int))).run Try.prog w = .ok (.slice (some ⟨w.heap.size, 0, none⟩) n n) w' ∧ Cel w' w.heap.size (bools (List.replicate n false)) 4 ∧ Below w.heap.size w w' := by
  obtain ⟨i0, hi, hz0, hz1, hz2⟩ := info_parts bool_info
  obtain ⟨w1, hmk, o1, g1⟩ := run_make_full (P := Try.prog) w w.heap.size 41 4 i0 (.bool false) 1 Try.underlying41 hi hz0 hz1 kl kc n (by rw [hz2]; omega) (by unfold maxLen; omega) (Nat.le_refl _)
  refine ⟨w1, hmk, ?_, (Below.refl _ _).grown g1 (Nat.le_refl _) (fun _ h => by cases h)⟩
  · rcases o1.2 with ⟨h, _⟩ | ⟨g, cap, cur, hv, _, hg, _, _, hs, ht⟩
    · cases h
    · simp only [Value.slice.injEq, Option.some.injEq, Addr.mk.injEq] at hv
      obtain ⟨⟨rfl, _⟩, _, rfl⟩ := hv
      rw [List.take_of_length_le (by simp [hs])] at ht
      rw [made_bools] at ht
      unfold Cel
      rw [← ht]
      simpa using hg

theorem freshP_fst (n : Nat) : (freshP n).map (·.1) = List.replicate n false := by simp [freshP]
theorem freshP_snd (n : Nat) : (freshP n).map (·.2) = List.replicate n false := by simp [freshP]

/-- The document's new pages. -/
def RNewsP (w : World) (n : Nat) (e : Ending) (w' : World) : Prop :=
  ∃ b, e = .returned (.tuple #[ptr b, err 0]) ∧ Rps w' b (freshP n) (fun q => w.heap.size ≤ q ∧ q < w'.heap.size) ∧ Below w.heap.size w w'

theorem rp_laid {w w1 w2 : World} {n : Nat} (b1 : Below w.drew.heap.size w.drew w1) (b2 : Below w1.heap.size w1 w2) (hlt : w.heap.size < w1.heap.size) :
    Below w.heap.size w w2 := ((Below.refl w.heap.size w).drew.trans (show Below w.heap.size w.drew w1 from b1)).trans (b2.mono (Nat.le_of_lt hlt))

theorem rp_two {w w2 : World} {n : Nat} (h1 : 1 ≤ n) (h2 : n ≤ 4096) (bb : Below w.heap.size w w2) (x y : Nat) (ne : x ≠ y) (hx : w.heap.size ≤ x) (hy : w.heap.size ≤ y)
    (cx : Cel w2 x (bools (List.replicate n false)) 4) (cy : Cel w2 y (bools (List.replicate n false)) 4) :
    RNewsP w n (.returned (.tuple #[ptr w2.heap.size, err 0])) (w2.alloc (.cells #[.slice (some ⟨x, 0, none⟩) n n, .slice (some ⟨y, 0, none⟩) n n] 49)) := by
  have lx := cx.lt
  have ly := cy.lt
  have hz := bb.size
  refine ⟨w2.heap.size, rfl, ⟨x, y, ?_⟩, bb.alloc hz _⟩
  exact {
    head := by rw [freshP_length]; exact Cel.new w2 _ _
    thens := by rw [freshP_fst]; exact cx.alloc _
    nows := by rw [freshP_snd]; exact cy.alloc _
    ne := ne
    fb := ⟨hz, by simp⟩
    ft := ⟨hx, by simp; omega⟩
    fn := ⟨hy, by simp; omega⟩
    fl := fun q hq => hq.2
    pos := by rw [freshP_length]; exact h1
    few := by rw [freshP_length]; exact h2 }

theorem rpnew_ok (n : Nat) (w : World) (h1 : 1 ≤ n) (h2 : n ≤ 4096) : Calls Try.prog 9 #[.int .i64 (n : Int)] w (RNewsP w n) := by
  obtain ⟨w1, hm1, c1, b1⟩ := run_bools w.drew .i64 .i64 n (by omega)
  obtain ⟨w2, hm2, c2, b2⟩ := run_bools w1 .i64 .i64 n (by omega)
  have t1 : decide ((n : Int) < 1) = false := by simp; omega
  have t2 : decide ((4096 : Int) < (n : Int)) = false := by simp; omega
  have hlt : w.heap.size < w1.heap.size := c1.lt
  have H := Lib.hid (And.intro (And.intro h1 h2) (And.intro b1 (And.intro b2 (And.intro c1 c2))))
  clear c1 c2 b1 b2 h1 h2
  go_enter Try.func9, Try.ntmps9
  go_wp2
  go_region
  all_goals go_wp2
  all_goals go_ret2
  all_goals
    obtain ⟨⟨h1, h2⟩, b1, b2, c1, c2⟩ := H.out
    have bb := rp_laid (n := n) b1 b2 hlt
    have k1 : Cel w2 w.heap.size (bools (List.replicate n false)) 4 := c1.below b2 hlt
    first
      | exact rp_two h1 h2 bb w.heap.size w1.heap.size (by omega) (Nat.le_refl _) (Nat.le_of_lt hlt) k1 c2
      | exact rp_two h1 h2 bb w1.heap.size w.heap.size (by omega) (Nat.le_of_lt hlt) (Nat.le_refl _) c2 k1
end Go.Proofs.Ytdmcknankcbjiaa
