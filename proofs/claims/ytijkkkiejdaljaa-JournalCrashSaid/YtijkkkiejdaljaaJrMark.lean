/- A journal's head in memory, and its small functions: Blocks, Free, the place of a spot, Mark, hold, Forget; conditions: the sizes that each contract names · Mark, hold and Forget of a journal; conditions: the sizes that each contract names. -/
import Derived.Test.YtijkkkiejdaljaaJrWrites
import Derived.Test.YtijkkkiejdaljaaBlkAny
import Derived.Test.YtijkkkiejdaljaaHeldLast
namespace Go.Proofs.Ytijkkkiejdaljaa
open Go.RowKit

abbrev spotV (t : Spot) : Value := .agg #[.int .i64 (t.1 : Int), .int .u64 (t.2 : Int)]
abbrev spotL (t : Spot) : List Value := [.int .i64 (t.1 : Int), .int .u64 (t.2 : Int)]
abbrev jnL (b : Nat) (J : Jn) : List Value := [ptr b, .int .i64 (J.fr : Int), .int .i64 (J.size : Int), .int .i64 (J.at_ : Int), .int .u64 (J.seq : Int), .int .u64 (J.held : Int), .int .i64 (J.ahead : Int), .int .u64 (J.sum : Int), .bool J.dead]
/-- A journal's head lies in block jb; its device is b. -/
def JAt (w : World) (jb b : Nat) (J : Jn) : Prop := Cel w jb (jnL b J) 67

/-- Its numbers are within their bounds. -/
structure Jn.Fit (J : Jn) : Prop where
  atl : J.at_ < J.size
  few : J.size ≤ 4096
  frl : J.fr ≤ 4096
  ahl : J.ahead ≤ J.size
  sql : J.seq + J.held < 18446744073709551616
  sml : J.sum < 18446744073709551616

section
variable {w w' : World} {jb b : Nat} {J : Jn}
theorem JAt.kept (h : JAt w jb b J) (hk : w'.heap[jb]? = w.heap[jb]?) : JAt w' jb b J := Cel.kept h hk
theorem JAt.lt (h : JAt w jb b J) : jb < w.heap.size := Cel.lt h
theorem JAt.below (h : JAt w jb b J) (hb : Below w.heap.size w w') : JAt w' jb b J := h.kept (hb.block jb h.lt)
theorem JAt.only {S : Nat → Prop} (h : JAt w jb b J) (ho : Only S w w') (hs : ¬ S jb) : JAt w' jb b J := h.kept (ho.block jb h.lt hs)
theorem JAt.alloc (h : JAt w jb b J) (o : Obj) : JAt (w.alloc o) jb b J := h.below ((Below.refl _ _).alloc (Nat.le_refl _) _)
theorem JAt.cells (h : JAt w jb b J) : w.cell? ⟨jb, 0, none⟩ = some (ptr b) ∧ w.cell? ⟨jb, 1, none⟩ = some (.int .i64 (J.fr : Int)) ∧ w.cell? ⟨jb, 2, none⟩ = some (.int .i64 (J.size : Int)) ∧
    w.cell? ⟨jb, 3, none⟩ = some (.int .i64 (J.at_ : Int)) ∧ w.cell? ⟨jb, 4, none⟩ = some (.int .u64 (J.seq : Int)) ∧ w.cell? ⟨jb, 5, none⟩ = some (.int .u64 (J.held : Int)) ∧
    w.cell? ⟨jb, 6, none⟩ = some (.int .i64 (J.ahead : Int)) ∧ w.cell? ⟨jb, 7, none⟩ = some (.int .u64 (J.sum : Int)) ∧ w.cell? ⟨jb, 8, none⟩ = some (.bool J.dead) := by
  refine ⟨?_, ?_, ?_, ?_, ?_, ?_, ?_, ?_, ?_⟩ <;> rw [Cel.cell h] <;> rfl

theorem blocks_any (n : Int) (w : World) (h1 : -9223372036854775808 ≤ n) (h2 : n ≤ 9223372036854775807) : Calls Try.prog 26 #[.int .i64 n] w fun e w' => e = .returned (.int .i64 (nBlocks n.toNat : Nat)) ∧ w = w' := by
  have hn : ((nBlocks n.toNat : Nat) : Int) = (max n 1 - 1) / 480 + 2 := by
    unfold nBlocks nPieces
    omega
  rw [hn]
  go_enter Try.func26, Try.ntmps26
  go_wp2
  go_ret
  exact ⟨rfl, rfl⟩

theorem free_any (h : JAt w jb b J) (hJ : J.Fit) : Calls Try.prog 25 #[ptr jb] w fun e w' => e = .returned (.int .i64 ((J.size : Int) - (J.ahead : Int))) ∧ ∃ m, w' = w.drewN m := by
  obtain ⟨_, _, c2, _, _, _, c6, _, _⟩ := h.cells
  have h1 := hJ.few
  have h2 := hJ.ahl
  clear h hJ
  go_enter Try.func25, Try.ntmps25
  go_wp2
  go_quiet (fail)
  go_wp2
  go_ret
  exact ⟨rfl, _, rfl⟩
theorem free_nil (w : World) : Calls Try.prog 25 #[.pointer none] w fun e w' => e = .returned (.int .i64 0) ∧ w = w' := by
  go_enter Try.func25, Try.ntmps25
  go_wp2
  go_ret
  exact ⟨rfl, rfl⟩

theorem place_any (h : JAt w jb b J) (ha : J.at_ < J.size) (hs : J.size ≤ 4096) (t : Spot) (ht : t.1 ≤ J.size) :
    Calls Try.prog 39 #[ptr jb, spotV t] w fun e w' => e = .returned (.int .i64 (ringAt J.at_ J.size t.1 : Nat)) ∧ Below w.heap.size w w' := by
  have hb := h.alloc (.cells #[.int .i64 (t.1 : Int), .int .u64 (t.2 : Int)] 65)
  obtain ⟨_, _, c2, c3, _⟩ := hb.cells
  have hbl := (Below.refl w.heap.size w).alloc (Nat.le_refl _) (.cells #[.int .i64 (t.1 : Int), .int .u64 (t.2 : Int)] 65)
  have HB := Lib.hid hbl
  clear h hb hbl
  by_cases hle : J.size ≤ J.at_ + t.1
  · have hr : ((ringAt J.at_ J.size t.1 : Nat) : Int) = (J.at_ : Int) + (t.1 : Int) - (J.size : Int) := by unfold ringAt; rw [if_pos hle]; omega
    rw [hr]
    have hle' : (J.size : Int) ≤ (J.at_ : Int) + (t.1 : Int) := by omega
    clear hr hle
    go_enter Try.func39, Try.ntmps39
    go_wp2
    go_quiet (fail)
    go_wp2
    go_ret
    exact ⟨rfl, below_drewN HB.out _⟩
  · have hr : ((ringAt J.at_ J.size t.1 : Nat) : Int) = (J.at_ : Int) + (t.1 : Int) := by unfold ringAt; rw [if_neg hle]; omega
    rw [hr]
    have hle' : (J.at_ : Int) + (t.1 : Int) < (J.size : Int) := by omega
    clear hr hle
    go_enter Try.func39, Try.ntmps39
    go_wp2
    go_quiet (fail)
    go_wp2
    go_ret
    exact ⟨rfl, below_drewN HB.out _⟩
end

open Go.RowKit

section
variable {w w' : World} {jb b : Nat} {J : Jn}

def markV (J : Jn) : Value := .tuple #[.int .i64 (ringAt J.at_ J.size J.ahead : Nat), .int .u64 ((J.seq : Int) + (J.held : Int))]

theorem mark_nil (w : World) : Calls Try.prog 24 #[.pointer none] w fun e w' => e = .returned (.tuple #[.int .i64 0, .int .u64 0]) ∧ w = w' := by
  go_enter Try.func24, Try.ntmps24
  go_wp2
  go_ret2
  exact ⟨rfl, rfl⟩

theorem mark_any (h : JAt w jb b J) (hJ : J.Fit) : Calls Try.prog 24 #[ptr jb] w fun e w' => e = .returned (markV J) ∧ Below w.heap.size w w' := by
  have HX := Lib.hid (fun (W : World) (hW : W.heap[jb]? = w.heap[jb]?) => (h.kept hW).cells)
  have HJ := Lib.hid (And.intro hJ h)
  have hsq : (J.seq : Int) + (J.held : Int) ≤ 18446744073709551615 := by have := hJ.sql; omega
  clear h hJ
  unfold markV
  go_enter Try.func24, Try.ntmps24
  go_wp2
  refine region_till 99 (fun W => W.heap[jb]? = w.heap[jb]?) (by kernel_rfl) rfl (fun hS => ?_)
  refine take_till (i := 0) (some 6) (ptr jb) rfl rfl (by kernel_rfl) (by kernel_rfl) (by kernel_rfl) (by kernel_rfl) (by decide) (fun _ _ _ h => h) (by rfl) (fun W hW => ?_) hS ?_
  · obtain ⟨c0, c1, c2, c3, c4, c5, c6, c7, c8⟩ := HX.out W hW
    clear hW
    go_simp
  simp only [Act.put, List.setIfInBounds_toArray, List.set_cons_zero, List.set_cons_succ]
  refine take_till (i := 1) (some 7) (ptr jb) rfl rfl (by kernel_rfl) (by kernel_rfl) (by kernel_rfl) (by kernel_rfl) (by decide) (fun _ _ _ h => h) (by rfl) (fun W hW => ?_) hS ?_
  · obtain ⟨c0, c1, c2, c3, c4, c5, c6, c7, c8⟩ := HX.out W hW
    clear hW
    go_simp
  simp only [Act.put, List.setIfInBounds_toArray, List.set_cons_zero, List.set_cons_succ]
  refine take_till (i := 2) (some 8) (ptr jb) rfl rfl (by kernel_rfl) (by kernel_rfl) (by kernel_rfl) (by kernel_rfl) (by decide) (fun _ _ _ h => h) (by rfl) (fun W hW => ?_) hS ?_
  · obtain ⟨c0, c1, c2, c3, c4, c5, c6, c7, c8⟩ := HX.out W hW
    clear hW
    go_simp
  simp only [Act.put, List.setIfInBounds_toArray, List.set_cons_zero, List.set_cons_succ]
  refine take_till (i := 3) (some 9) (.pointer (some ⟨jb, 6, none⟩)) rfl rfl (by kernel_rfl) (by kernel_rfl) (by kernel_rfl) (by kernel_rfl) (by decide) (fun _ _ _ h => h) (by rfl) (fun W hW => ?_) hS ?_
  · obtain ⟨c0, c1, c2, c3, c4, c5, c6, c7, c8⟩ := HX.out W hW
    clear hW
    go_simp
  simp only [Act.put, List.setIfInBounds_toArray, List.set_cons_zero, List.set_cons_succ]
  refine take_till (i := 4) (some 10) (spotV J.spot) rfl rfl (by kernel_rfl) (by kernel_rfl) (by kernel_rfl) (by kernel_rfl) (by decide) (fun _ _ _ h => h) (by rfl) (fun W hW => ?_) hS ?_
  · obtain ⟨c0, c1, c2, c3, c4, c5, c6, c7, c8⟩ := HX.out W hW
    clear hW
    go_simp
  simp only [Act.put, List.setIfInBounds_toArray, List.set_cons_zero, List.set_cons_succ]
  refine take_till (i := 6) (some 12) (ptr jb) rfl rfl (by kernel_rfl) (by kernel_rfl) (by kernel_rfl) (by kernel_rfl) (by decide) (fun _ _ _ h => h) (by rfl) (fun W hW => ?_) hS ?_
  · obtain ⟨c0, c1, c2, c3, c4, c5, c6, c7, c8⟩ := HX.out W hW
    clear hW
    go_simp
  simp only [Act.put, List.setIfInBounds_toArray, List.set_cons_zero, List.set_cons_succ]
  refine take_till (i := 7) (some 13) (ptr jb) rfl rfl (by kernel_rfl) (by kernel_rfl) (by kernel_rfl) (by kernel_rfl) (by decide) (fun _ _ _ h => h) (by rfl) (fun W hW => ?_) hS ?_
  · obtain ⟨c0, c1, c2, c3, c4, c5, c6, c7, c8⟩ := HX.out W hW
    clear hW
    go_simp
  simp only [Act.put, List.setIfInBounds_toArray, List.set_cons_zero, List.set_cons_succ]
  refine take_till (i := 8) (some 14) (.pointer (some ⟨jb, 4, none⟩)) rfl rfl (by kernel_rfl) (by kernel_rfl) (by kernel_rfl) (by kernel_rfl) (by decide) (fun _ _ _ h => h) (by rfl) (fun W hW => ?_) hS ?_
  · obtain ⟨c0, c1, c2, c3, c4, c5, c6, c7, c8⟩ := HX.out W hW
    clear hW
    go_simp
  simp only [Act.put, List.setIfInBounds_toArray, List.set_cons_zero, List.set_cons_succ]
  refine take_till (i := 9) (some 15) (.int .u64 (J.seq : Int)) rfl rfl (by kernel_rfl) (by kernel_rfl) (by kernel_rfl) (by kernel_rfl) (by decide) (fun _ _ _ h => h) (by rfl) (fun W hW => ?_) hS ?_
  · obtain ⟨c0, c1, c2, c3, c4, c5, c6, c7, c8⟩ := HX.out W hW
    clear hW
    go_simp
  simp only [Act.put, List.setIfInBounds_toArray, List.set_cons_zero, List.set_cons_succ]
  refine take_till (i := 10) (some 16) (ptr jb) rfl rfl (by kernel_rfl) (by kernel_rfl) (by kernel_rfl) (by kernel_rfl) (by decide) (fun _ _ _ h => h) (by rfl) (fun W hW => ?_) hS ?_
  · obtain ⟨c0, c1, c2, c3, c4, c5, c6, c7, c8⟩ := HX.out W hW
    clear hW
    go_simp
  simp only [Act.put, List.setIfInBounds_toArray, List.set_cons_zero, List.set_cons_succ]
  refine take_till (i := 11) (some 17) (ptr jb) rfl rfl (by kernel_rfl) (by kernel_rfl) (by kernel_rfl) (by kernel_rfl) (by decide) (fun _ _ _ h => h) (by rfl) (fun W hW => ?_) hS ?_
  · obtain ⟨c0, c1, c2, c3, c4, c5, c6, c7, c8⟩ := HX.out W hW
    clear hW
    go_simp
  simp only [Act.put, List.setIfInBounds_toArray, List.set_cons_zero, List.set_cons_succ]
  refine take_till (i := 12) (some 18) (.pointer (some ⟨jb, 5, none⟩)) rfl rfl (by kernel_rfl) (by kernel_rfl) (by kernel_rfl) (by kernel_rfl) (by decide) (fun _ _ _ h => h) (by rfl) (fun W hW => ?_) hS ?_
  · obtain ⟨c0, c1, c2, c3, c4, c5, c6, c7, c8⟩ := HX.out W hW
    clear hW
    go_simp
  simp only [Act.put, List.setIfInBounds_toArray, List.set_cons_zero, List.set_cons_succ]
  refine take_till (i := 13) (some 19) (.int .u64 (J.held : Int)) rfl rfl (by kernel_rfl) (by kernel_rfl) (by kernel_rfl) (by kernel_rfl) (by decide) (fun _ _ _ h => h) (by rfl) (fun W hW => ?_) hS ?_
  · obtain ⟨c0, c1, c2, c3, c4, c5, c6, c7, c8⟩ := HX.out W hW
    clear hW
    go_simp
  simp only [Act.put, List.setIfInBounds_toArray, List.set_cons_zero, List.set_cons_succ]
  refine take_till (i := 14) (some 20) (.int .u64 ((J.seq : Int) + (J.held : Int))) rfl rfl (by kernel_rfl) (by kernel_rfl) (by kernel_rfl) (by kernel_rfl) (by decide) (fun _ _ _ h => h) (by rfl) (fun W hW => ?_) hS ?_
  · obtain ⟨c0, c1, c2, c3, c4, c5, c6, c7, c8⟩ := HX.out W hW
    clear hW
    go_simp
    exact IntWalk.u64_in _ (by omega)
  simp only [Act.put, List.setIfInBounds_toArray, List.set_cons_zero, List.set_cons_succ]
  refine next_till 5 (by kernel_rfl) rfl (fun K hK => ?_)
  go_simp
  have hd : JAt w.drew jb b J := HJ.out.2
  refine (place_any hd HJ.out.1.atl HJ.out.1.few J.spot HJ.out.1.ahl).mono ?_
  rintro e w2 ⟨rfl, hb⟩
  have hb' := (below_drewN (Below.refl w.heap.size w) 1).trans hb
  have k2 : w2.heap[jb]? = w.heap[jb]? := hb'.block jb HJ.out.2.lt
  clear hb hd
  refine hK.out _ _ (fun _ => k2) ?_
  clear hK K
  refine take_till (i := 15) (some 2) (.int .i64 (ringAt J.at_ J.size J.ahead : Nat)) rfl rfl (by kernel_rfl) (by kernel_rfl) (by kernel_rfl) (by kernel_rfl) (by decide) (fun _ _ _ h => h) (by rfl) (fun W hW => ?_) k2 ?_
  · clear hW
    go_simp
  simp only [Act.put, List.setIfInBounds_toArray, List.set_cons_zero, List.set_cons_succ]
  refine next_till 16 (by kernel_rfl) rfl (fun K hK => ?_)
  go_simp
  refine hK.out _ _ (fun _ => k2) ?_
  clear hK K
  refine done_till (by kernel_rfl) ?_ _
  go_wp2
  go_ret2
  exact ⟨rfl, hb'⟩

/-- One string more is held. -/
def Jn.more (J : Jn) (t : Spot) : Jn := { J with held := J.held + 1, ahead := t.1, sum := t.2 }
def Jn.gone (J : Jn) : Jn := { J with at_ := ringAt J.at_ J.size J.ahead, seq := J.seq + J.held, held := 0, ahead := 0, sum := 0 }
def Jn.dies (J : Jn) : Jn := { J with dead := true }

/-- The head alone has turned. -/
def Turns (w : World) (jb b : Nat) (J : Jn) (w' : World) : Prop := JAt w' jb b J ∧ Only (· = jb) w w'

theorem hold_any (h : JAt w jb b J) (hm : J.seq + J.held + 1 < 18446744073709551616) (t : Spot) :
    Calls Try.prog 31 #[ptr jb, spotV t] w fun e w' => e = .returned (.tuple #[]) ∧ Turns w jb b (J.more t) w' := by
  have hb := h.alloc (.cells #[.int .i64 (t.1 : Int), .int .u64 (t.2 : Int)] 65)
  obtain ⟨_, _, _, _, _, c5, c6, c7, _⟩ := hb.cells
  have f5 := Cel.frozen hb 5
  have f6 := Cel.frozen hb 6
  have f7 := Cel.frozen hb 7
  have hlt : w.heap.size ≠ jb := fun e => by have := h.lt; omega
  have ho : Only (· = jb) w (w.alloc (.cells #[.int .i64 (t.1 : Int), .int .u64 (t.2 : Int)] 65)) := Only.of_below ((Below.refl _ _).alloc (Nat.le_refl _) _) _
  have H := Lib.hid (And.intro hb ho)
  have hh : (J.held : Int) + 1 ≤ 18446744073709551615 := by omega
  clear h hb ho hm
  go_enter Try.func31, Try.ntmps31
  go_wp2
  refine ⟨rfl, .tuple #[], by kernel_rfl, rfl, ?_, ?_⟩
  · exact ((H.out.1.set 5 (.int .u64 ((J.held : Int) + 1))).set 6 (.int .i64 (t.1 : Int))).set 7 (.int .u64 (t.2 : Int))
  · exact ((H.out.2.setCell (p := ⟨jb, 5, none⟩) (.inl rfl) _).setCell (p := ⟨jb, 6, none⟩) (.inl rfl) _).setCell (p := ⟨jb, 7, none⟩) (.inl rfl) _

theorem forget_nil (w : World) : Calls Try.prog 13 #[.pointer none] w fun e w' => e = .returned (.int .i64 2) ∧ w = w' := by
  go_enter Try.func13, Try.ntmps13
  go_wp2
  go_ret
  exact ⟨rfl, rfl⟩
theorem forget_dead (h : JAt w jb b J) (hd : J.dead = true) : Calls Try.prog 13 #[ptr jb] w fun e w' => e = .returned (.int .i64 3) ∧ w = w' := by
  obtain ⟨_, _, _, _, _, _, _, _, c8⟩ := h.cells
  rw [hd] at c8
  clear h hd
  go_enter Try.func13, Try.ntmps13
  go_wp2
  go_ret
  exact ⟨rfl, rfl⟩
theorem forget_ok (h : JAt w jb b J) (hJ : J.Fit) (hd : J.dead = false) : Calls Try.prog 13 #[ptr jb] w fun e w' => e = .returned (.int .i64 0) ∧ Turns w jb b J.gone w' := by
  obtain ⟨_, _, _, _, _, _, _, _, c8⟩ := h.cells
  rw [hd] at c8
  have H := Lib.hid (And.intro hJ h)
  clear h hd hJ
  go_enter Try.func13, Try.ntmps13
  go_wp2_with fail
  refine (mark_any H.out.2 H.out.1).mono ?_
  rintro e w1 ⟨rfl, hb⟩
  have h1 := H.out.2.below hb
  obtain ⟨_, _, _, c3, c4, c5, c6, c7, _⟩ := h1.cells
  have f3 := Cel.frozen h1 3
  have f4 := Cel.frozen h1 4
  have f5 := Cel.frozen h1 5
  have f6 := Cel.frozen h1 6
  have f7 := Cel.frozen h1 7
  have H1 := Lib.hid (And.intro h1 (Only.of_below hb (· = jb)))
  unfold markV
  clear hb h1 c8
  go_wp2
  go_ret
  refine ⟨rfl, ?_, ?_⟩
  · have := ((((H1.out.1.set 3 (.int .i64 (ringAt J.at_ J.size J.ahead : Nat))).set 4 (.int .u64 ((J.seq : Int) + (J.held : Int)))).set 5 (.int .u64 0)).set 6 (.int .i64 0)).set 7 (.int .u64 0)
    exact this
  · exact ((((H1.out.2.setCell (p := ⟨jb, 3, none⟩) (.inl rfl) _).setCell (p := ⟨jb, 4, none⟩) (.inl rfl) _).setCell (p := ⟨jb, 5, none⟩) (.inl rfl) _).setCell (p := ⟨jb, 6, none⟩) (.inl rfl) _).setCell (p := ⟨jb, 7, none⟩) (.inl rfl) _
end
end Go.Proofs.Ytijkkkiejdaljaa
