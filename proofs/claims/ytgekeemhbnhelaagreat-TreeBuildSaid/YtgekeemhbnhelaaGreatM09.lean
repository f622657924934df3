/- What stands in a node's body: an entry at a place; whether a node may be; the node of a block; condition: what is handed in lies in memory. · May these be a node's entries: the walk of may; condition: what is handed in lies in memory. · The node of a block: the walk of opened; condition: what is handed in lies in memory. · What a block says of a node is what was sealed there; condition: the node is such as may stand in a block. -/
import Derived.Test.YtgekeemhbnhelaaGreatM06
import Derived.Test.YtgekeemhbnhelaaGreatM07
import Derived.Test.YtgekeemhbnhelaaGreatM08
namespace Go.Proofs.YtgekeemhbnhelaaGreat
open Go.RowKit

/-- The entry at a place of a body, and the place behind it. -/
def takenV (l : Bytes) (p : Int) (lvl : Nat) : Option (En × Int) :=
  if tbOk l p then
    if lvl = 0 then (if tbOk l (p + 2 + tbN l p) then some (⟨tbL l p, tbL l (p + 2 + tbN l p), 0⟩, p + 2 + tbN l p + 2 + tbN l (p + 2 + tbN l p)) else none)
    else (if takeMay l (p + 2 + tbN l p) 4 ∧ 4 ≤ l.length - (p + 2 + tbN l p) then some (⟨tbL l p, [], takeN l (p + 2 + tbN l p) 4⟩, p + 2 + tbN l p + 4) else none)
  else none
/-- What taken answers. -/
def Takens (w : World) (r : Option (En × Int)) (e : Ending) (w' : World) : Prop :=
  ∃ kv vv nx c en, e = .returned (.tuple #[.agg #[kv, vv, .int .i64 (en.page : Nat)], .int .i64 nx, err c]) ∧ Ow w' w.heap.size 5 kv en.key ∧ Ow w' w.heap.size 5 vv en.val ∧ Below w.heap.size w w' ∧
    (match r with | some (en', nx') => en = en' ∧ nx = nx' ∧ c = 0 | none => c ≠ 0 ∧ en.page = 0)

theorem tbE_ne {l : Bytes} {p : Int} (h : ¬ tbOk l p) : tbE l p ≠ 0 := by
  unfold tbE
  rw [if_neg h]
  split
  · decide
  · decide
theorem tbE_ok {l : Bytes} {p : Int} (h : tbOk l p) : tbE l p = 0 ∧ tbX l p = p + 2 + tbN l p := by
  unfold tbE tbX
  rw [if_pos h.1, if_pos h, if_pos h]
  exact ⟨rfl, rfl⟩

set_option maxHeartbeats 1000000 in
theorem taken_no {b : Value} {l : Bytes} (p : Int) (lvl : Nat) (w : World) (hb : Bs w b l) (hl : l.length ≤ 1073741824) (h : ¬ tbOk l p) :
    Calls Tryz.prog 123 #[b, .int .i64 p, .int .i64 (lvl : Int)] w (Takens w (takenV l p lvl)) := by
  unfold takenV
  rw [if_neg h]
  have he := tbE_ne h
  have hb0 : Below w.heap.size w (w.alloc (.cells #[.slice none 0 0, .slice none 0 0, .int .i64 0] 93)) := (Below.refl _ _).alloc (Nat.le_refl _) _
  have C0 : Cel (w.alloc (.cells #[.slice none 0 0, .slice none 0 0, .int .i64 0] 93)) w.heap.size [.slice none 0 0, .slice none 0 0, .int .i64 0] 93 := Cel.new w _ _
  have T := takeBytes_any p _ (hb.below hb0) hl
  have HH := Lib.hid (And.intro hb0 (And.intro C0 he))
  have hbe : ((tbE l p) == 0) = false := by rw [beq_eq_false_iff_ne]; exact he
  have hbe2 : ¬ tbE l p = 0 := he
  clear hb0 C0 h hb he
  go_enter Tryz.func123, Tryz.ntmps123
  go_wp2_with fail
  refine T.mono ?_
  rintro e w1 ⟨kv, rfl, ho, hb1⟩
  clear T
  have C1 := HH.out.2.1.below hb1 HH.out.2.1.lt
  have c0 : w1.cell? ⟨w.heap.size, 0, none⟩ = some (.slice none 0 0) := C1.cell 0
  have c1 : w1.cell? ⟨w.heap.size, 1, none⟩ = some (.slice none 0 0) := C1.cell 1
  have c2 : w1.cell? ⟨w.heap.size, 2, none⟩ = some (.int .i64 0) := C1.cell 2
  have f0 := C1.frozen 0
  have f1 := C1.frozen 1
  have f2 := C1.frozen 2
  obtain ⟨ka, kc, rfl, _⟩ := ho.bs.shape
  generalize tbE l p = en at *
  generalize tbX l p = nx at *
  generalize tbL l p = m at *
  go_wp2
  obtain ⟨hb0, _, he⟩ := HH.out
  have hbw := hb0.trans (hb1.mono (by simp))
  have C2 := (((C1.set 0 (.slice ka m.length kc)).set 0 (.slice none 0 0)).set 1 (.slice none 0 0)).set 2 (.int .i64 0)
  refine bodyPost_ret (results_cell3 (g := w.heap.size) rfl rfl C2 Tryz.underlying93 rfl (by kernel_rfl)) rfl ⟨.slice none 0 0, .slice none 0 0, 0, en, ⟨[], [], 0⟩, rfl, World.ownsRow_nil _ _ _ _, World.ownsRow_nil _ _ _ _, ?_, he, rfl⟩
  exact (((hbw.setCell (p := ⟨w.heap.size, 0, none⟩) (Nat.le_refl _) _).setCell (p := ⟨w.heap.size, 0, none⟩) (Nat.le_refl _) _).setCell (p := ⟨w.heap.size, 1, none⟩) (Nat.le_refl _) _).setCell (p := ⟨w.heap.size, 2, none⟩) (Nat.le_refl _) _

theorem ow_keep {w w' : World} {base : Nat} {e : TypeId} {v : Value} {l : Bytes} (h : Ow w base e v l) (hk : ∀ q, v.ownBlock = some q → w'.heap[q]? = w.heap[q]?) : Ow w' base e v l := ownsRow_kept h hk
theorem ow_off {w : World} {base g : Nat} {e : TypeId} {v : Value} {l : Bytes} {i : Nat} {u : Value} (h : Ow w base e v l) (hg : g < base) : Ow (w.setCell ⟨g, i, none⟩ u) base e v l :=
  ow_keep h fun q hq => Below.heap_setCell _ _ _ _ (fun e => by have := (World.ownsRow.lt h q hq).1; simp at e; omega)
theorem ow_at4 {w : World} {g : Nat} {e : TypeId} {v : Value} {l : Bytes} {i j k m : Nat} {a b c d : Value} (h : Ow w (g + 1) e v l) :
    Ow ((((w.setCell ⟨g, i, none⟩ a).setCell ⟨g, j, none⟩ b).setCell ⟨g, k, none⟩ c).setCell ⟨g, m, none⟩ d) g e v l :=
  (ow_off (ow_off (ow_off (ow_off h (Nat.lt_succ_self _)) (Nat.lt_succ_self _)) (Nat.lt_succ_self _)) (Nat.lt_succ_self _)).mono (Nat.le_succ _)
set_option maxHeartbeats 1000000 in
theorem taken_pair {b : Value} {l : Bytes} (p : Int) (w : World) (hb : Bs w b l) (hl : l.length ≤ 1073741824) (h : tbOk l p) :
    Calls Tryz.prog 123 #[b, .int .i64 p, .int .i64 0] w (Takens w (takenV l p 0)) := by
  generalize hR : takenV l p 0 = R
  unfold takenV at hR
  rw [if_pos h, if_pos rfl] at hR
  obtain ⟨e1, e2⟩ := tbE_ok h
  have hb0 : Below w.heap.size w (w.alloc (.cells #[.slice none 0 0, .slice none 0 0, .int .i64 0] 93)) := (Below.refl _ _).alloc (Nat.le_refl _) _
  have z0 : (w.alloc (.cells #[.slice none 0 0, .slice none 0 0, .int .i64 0] 93)).heap.size = w.heap.size + 1 := by simp
  have C0 : Cel (w.alloc (.cells #[.slice none 0 0, .slice none 0 0, .int .i64 0] 93)) w.heap.size [.slice none 0 0, .slice none 0 0, .int .i64 0] 93 := Cel.new w _ _
  have T := takeBytes_any p _ (hb.below hb0) hl
  unfold TakesB at T
  rw [e1, e2] at T
  have HH := Lib.hid (And.intro hb0 (And.intro C0 (And.intro hb z0)))
  have HR := Lib.hid hR
  clear hb0 C0 h hb e1 e2 z0 hR
  go_enter Tryz.func123, Tryz.ntmps123
  go_wp2_with fail
  refine T.mono ?_
  rintro e w1 ⟨kv, rfl, ho, hb1⟩
  clear T
  obtain ⟨hb0, C0, hb, z0⟩ := HH.out
  have C1 := C0.below hb1 C0.lt
  have c0 : w1.cell? ⟨w.heap.size, 0, none⟩ = some (.slice none 0 0) := C1.cell 0
  have f0 := C1.frozen 0
  have f1 := C1.frozen 1
  have f2 := C1.frozen 2
  obtain ⟨ka, kc, rfl, _⟩ := ho.bs.shape
  have hbw := hb0.trans (hb1.mono (by simp))
  have C2 := C1.set 0 (.slice ka (tbL l p).length kc)
  have hb2 := hbw.setCell (p := ⟨w.heap.size, 0, none⟩) (Nat.le_refl _) (.slice ka (tbL l p).length kc)
  have ho2 := ow_off (i := 0) (u := .slice ka (tbL l p).length kc) ho (show w.heap.size < (w.alloc (.cells #[.slice none 0 0, .slice none 0 0, .int .i64 0] 93)).heap.size by omega)
  have T := takeBytes_any (p + 2 + tbN l p) _ (hb.below hb2) hl
  have hz2 : w.heap.size < (w1.setCell ⟨w.heap.size, 0, none⟩ (.slice ka (tbL l p).length kc)).heap.size := C2.lt
  have H1 := Lib.hid (And.intro C2 (And.intro hb2 (And.intro ho2 hz2)))
  clear hb0 C0 hb z0 C1 hbw C2 hb2 ho2 ho hb1 hz2
  generalize tbL l p = m at *
  generalize p + 2 + (tbN l p : Int) = p1 at *
  go_wp2_with fail
  refine T.mono ?_
  rintro e w2 ⟨vv, rfl, hov, hb3⟩
  clear T
  obtain ⟨C2, hb2, ho2, hz2⟩ := H1.out
  have C3 := C2.below hb3 hz2
  have c0 : w2.cell? ⟨w.heap.size, 0, none⟩ = some (.slice ka m.length kc) := C3.cell 0
  have c1 : w2.cell? ⟨w.heap.size, 1, none⟩ = some (.slice none 0 0) := C3.cell 1
  have c2 : w2.cell? ⟨w.heap.size, 2, none⟩ = some (.int .i64 0) := C3.cell 2
  have f0 := C3.frozen 0
  have f1 := C3.frozen 1
  have f2 := C3.frozen 2
  obtain ⟨va, vc, rfl, _⟩ := hov.bs.shape
  have hb4 := hb2.trans (hb3.mono (Nat.le_of_lt hz2))
  have ho3 := (ho2.below hb3).mono (show w.heap.size + 1 ≤ (w.alloc (.cells #[.slice none 0 0, .slice none 0 0, .int .i64 0] 93)).heap.size by simp)
  have H2 := Lib.hid (And.intro C3 (And.intro hb4 (And.intro (hov.mono (show w.heap.size + 1 ≤ _ from hz2)) ho3)))
  have hz3 : w.heap.size < w2.heap.size := C3.lt
  have H3 := Lib.hid (And.intro (show tbOk l p1 → tbX l p1 = p1 + 2 + tbN l p1 ∧ tbE l p1 = 0 from fun h => ⟨(tbE_ok h).2, (tbE_ok h).1⟩) (show ¬ tbOk l p1 → tbE l p1 ≠ 0 from tbE_ne))
  clear C2 hb2 ho2 hz2 C3 hb3 hov hb4 ho3
  go_wp2
  obtain ⟨C3, hb4, hov, ho3⟩ := H2.out
  have C4 := (((C3.set 1 (.slice va (tbL l p1).length vc)).set 0 (.slice ka m.length kc)).set 1 (.slice va (tbL l p1).length vc)).set 2 (.int .i64 0)
  refine bodyPost_ret (results_cell3 (g := w.heap.size) rfl rfl C4 Tryz.underlying93 rfl (by kernel_rfl)) rfl ⟨.slice ka m.length kc, .slice va (tbL l p1).length vc, tbX l p1, tbE l p1, ⟨m, tbL l p1, 0⟩, rfl, ?_, ?_, ?_, ?_⟩
  · exact ow_at4 ho3
  · exact ow_at4 hov
  · exact (((hb4.setCell (p := ⟨w.heap.size, 1, none⟩) (Nat.le_refl _) _).setCell (p := ⟨w.heap.size, 0, none⟩) (Nat.le_refl _) _).setCell (p := ⟨w.heap.size, 1, none⟩) (Nat.le_refl _) _).setCell (p := ⟨w.heap.size, 2, none⟩) (Nat.le_refl _) _
  · rw [← HR.out]
    by_cases h : tbOk l p1
    · rw [if_pos h]
      exact ⟨rfl, (H3.out.1 h).1, (H3.out.1 h).2⟩
    · rw [if_neg h]
      exact ⟨H3.out.2 h, rfl⟩

set_option maxHeartbeats 1000000 in
theorem taken_child {b : Value} {l : Bytes} (p : Int) (lvl : Nat) (w : World) (hb : Bs w b l) (hl : l.length ≤ 1073741824) (h : tbOk l p) (hlv : lvl ≠ 0) :
    Calls Tryz.prog 123 #[b, .int .i64 p, .int .i64 (lvl : Int)] w (Takens w (takenV l p lvl)) := by
  generalize hR : takenV l p lvl = R
  unfold takenV at hR
  rw [if_pos h, if_neg hlv] at hR
  obtain ⟨e1, e2⟩ := tbE_ok h
  have hb0 : Below w.heap.size w (w.alloc (.cells #[.slice none 0 0, .slice none 0 0, .int .i64 0] 93)) := (Below.refl _ _).alloc (Nat.le_refl _) _
  have z0 : (w.alloc (.cells #[.slice none 0 0, .slice none 0 0, .int .i64 0] 93)).heap.size = w.heap.size + 1 := by simp
  have C0 : Cel (w.alloc (.cells #[.slice none 0 0, .slice none 0 0, .int .i64 0] 93)) w.heap.size [.slice none 0 0, .slice none 0 0, .int .i64 0] 93 := Cel.new w _ _
  have T := takeBytes_any p _ (hb.below hb0) hl
  unfold TakesB at T
  rw [e1, e2] at T
  have HH := Lib.hid (And.intro hb0 (And.intro C0 (And.intro hb z0)))
  have HR := Lib.hid hR
  have hli : ((lvl : Int) == 0) = false := by rw [beq_eq_false_iff_ne]; omega
  clear hb0 C0 h hb e1 e2 z0 hR hlv
  go_enter Tryz.func123, Tryz.ntmps123
  go_wp2_with fail
  refine T.mono ?_
  rintro e w1 ⟨kv, rfl, ho, hb1⟩
  clear T
  obtain ⟨hb0, C0, hb, z0⟩ := HH.out
  have C1 := C0.below hb1 C0.lt
  have c0 : w1.cell? ⟨w.heap.size, 0, none⟩ = some (.slice none 0 0) := C1.cell 0
  have f0 := C1.frozen 0
  have f1 := C1.frozen 1
  have f2 := C1.frozen 2
  obtain ⟨ka, kc, rfl, _⟩ := ho.bs.shape
  have hbw := hb0.trans (hb1.mono (by simp))
  have C2 := C1.set 0 (.slice ka (tbL l p).length kc)
  have hb2 := hbw.setCell (p := ⟨w.heap.size, 0, none⟩) (Nat.le_refl _) (.slice ka (tbL l p).length kc)
  have ho2 := ow_off (i := 0) (u := .slice ka (tbL l p).length kc) ho (show w.heap.size < (w.alloc (.cells #[.slice none 0 0, .slice none 0 0, .int .i64 0] 93)).heap.size by omega)
  have T := Go.Proofs.YtgekeemhbnhelaaGreat.take_any (p + 2 + tbN l p) 4 _ (hb.below hb2) hl
  unfold Takes at T
  have hz2 : w.heap.size < (w1.setCell ⟨w.heap.size, 0, none⟩ (.slice ka (tbL l p).length kc)).heap.size := C2.lt
  have H1 := Lib.hid (And.intro C2 (And.intro hb2 (And.intro ho2 hz2)))
  clear hb0 C0 hb z0 C1 hbw C2 hb2 ho2 ho hb1 hz2
  generalize tbL l p = m at *
  generalize p + 2 + (tbN l p : Int) = p1 at *
  go_wp2_with fail
  refine T.mono ?_
  rintro e w2 ⟨rfl, hb3⟩
  clear T
  obtain ⟨C2, hb2, ho2, hz2⟩ := H1.out
  have C3 := C2.below hb3 hz2
  have c0 : w2.cell? ⟨w.heap.size, 0, none⟩ = some (.slice ka m.length kc) := C3.cell 0
  have c1 : w2.cell? ⟨w.heap.size, 1, none⟩ = some (.slice none 0 0) := C3.cell 1
  have c2 : w2.cell? ⟨w.heap.size, 2, none⟩ = some (.int .i64 0) := C3.cell 2
  have f0 := C3.frozen 0
  have f1 := C3.frozen 1
  have f2 := C3.frozen 2
  have hb4 := hb2.trans (hb3.mono (Nat.le_of_lt hz2))
  have ho3 := (ho2.below hb3).mono (show w.heap.size + 1 ≤ (w.alloc (.cells #[.slice none 0 0, .slice none 0 0, .int .i64 0] 93)).heap.size by simp)
  have hN : takeN l p1 4 < 4294967296 := by
    unfold takeN
    split
    · have := beNat_lt ((l.drop p1.toNat).take (4 : Int).toNat)
      have h2 : ((l.drop p1.toNat).take (4 : Int).toNat).length ≤ 4 := by rw [List.length_take]; exact Nat.min_le_left _ _
      exact Nat.lt_of_lt_of_le this (Nat.pow_le_pow_right (by decide) h2)
    · decide
  have hNi : (takeN l p1 4 : Int) < 4294967296 := by omega
  have hok : takeMay l p1 4 ∧ 4 ≤ (l.length : Int) - p1 → takeX l p1 4 = p1 + 4 ∧ takeE l p1 4 = 0 := fun h => by
    unfold takeX takeE
    rw [if_pos h, if_pos h.1, if_pos h.2]
    exact ⟨rfl, rfl⟩
  have hno : ¬ (takeMay l p1 4 ∧ 4 ≤ (l.length : Int) - p1) → takeE l p1 4 ≠ 0 ∧ takeN l p1 4 = 0 := fun h => by
    refine ⟨?_, by unfold takeN; rw [if_neg h]⟩
    unfold takeE
    by_cases h1 : takeMay l p1 4
    · rw [if_pos h1, if_neg (fun h2 => h ⟨h1, h2⟩)]
      decide
    · rw [if_neg h1]
      decide
  have H2 := Lib.hid (And.intro C3 (And.intro hb4 ho3))
  have H3 := Lib.hid (And.intro hok hno)
  clear C2 hb2 ho2 hz2 C3 hb3 hb4 ho3 hok hno hN
  generalize takeN l p1 4 = N at *
  generalize takeX l p1 4 = X at *
  generalize takeE l p1 4 = E at *
  go_wp2
  obtain ⟨C3, hb4, ho3⟩ := H2.out
  have C4 := (((C3.set 2 (.int .i64 (N : Nat))).set 0 (.slice ka m.length kc)).set 1 (.slice none 0 0)).set 2 (.int .i64 (N : Nat))
  refine bodyPost_ret (results_cell3 (g := w.heap.size) rfl rfl C4 Tryz.underlying93 rfl (by kernel_rfl)) rfl ⟨.slice ka m.length kc, .slice none 0 0, X, E, ⟨m, [], N⟩, rfl, ?_, World.ownsRow_nil _ _ _ _, ?_, ?_⟩
  · exact ow_at4 ho3
  · exact (((hb4.setCell (p := ⟨w.heap.size, 2, none⟩) (Nat.le_refl _) _).setCell (p := ⟨w.heap.size, 0, none⟩) (Nat.le_refl _) _).setCell (p := ⟨w.heap.size, 1, none⟩) (Nat.le_refl _) _).setCell (p := ⟨w.heap.size, 2, none⟩) (Nat.le_refl _) _
  · rw [← HR.out]
    by_cases h : takeMay l p1 4 ∧ 4 ≤ (l.length : Int) - p1
    · rw [if_pos h]
      exact ⟨rfl, (H3.out.1 h).1, (H3.out.1 h).2⟩
    · rw [if_neg h]
      exact H3.out.2 h

theorem taken_any {b : Value} {l : Bytes} (p : Int) (lvl : Nat) (w : World) (hb : Bs w b l) (hl : l.length ≤ 1073741824) :
    Calls Tryz.prog 123 #[b, .int .i64 p, .int .i64 (lvl : Int)] w (Takens w (takenV l p lvl)) := by
  by_cases h : tbOk l p
  · by_cases hlv : lvl = 0
    · subst hlv
      exact taken_pair p w hb hl h
    · exact taken_child p lvl w hb hl h hlv
  · exact taken_no p lvl w hb hl h

/-- May these be a node's entries? -/
def MayP (N lvl : Nat) (es : List En) : Prop := es ≠ [] ∧ (0 < lvl → 2 ≤ es.length) ∧ (∀ e ∈ es, (1 ≤ e.key.length ∧ e.key.length ≤ 32) ∧ e.val.length ≤ 128 ∧ e.page < N) ∧ RiseE es

theorem rise_of {es : List En} (h : ∀ (i : Nat) (a b : En), es[i]? = some a → es[i + 1]? = some b → cmp a.key b.key < 0) : RiseE es := by
  induction es with
  | nil => exact List.Pairwise.nil
  | cons a r ih =>
    have hr : RiseE r := ih fun i x y hx hy => h (i + 1) x y (by simpa using hx) (by simpa using hy)
    refine List.Pairwise.cons ?_ hr
    intro b hb
    obtain ⟨i, hi⟩ := List.getElem?_of_mem hb
    rcases r with _ | ⟨c, r⟩
    · cases hb
    · have h1 := h 0 a c rfl rfl
      rcases i with _ | i
      · simp only [List.getElem?_cons_zero, Option.some.injEq] at hi
        exact hi ▸ h1
      · have h2 := hr.lt (i := 0) (j := i + 1) rfl hi (by omega)
        exact cmp_ltt h1 h2

/-- The first j entries may be. -/
def MayTo (N : Nat) (es : List En) (j : Nat) : Prop := (∀ (i : Nat) (e : En), i < j → es[i]? = some e → (1 ≤ e.key.length ∧ e.key.length ≤ 32) ∧ e.val.length ≤ 128 ∧ e.page < N) ∧
  ∀ (i : Nat) (a b : En), i + 1 < j → es[i]? = some a → es[i + 1]? = some b → cmp a.key b.key < 0
theorem MayTo.zero (N : Nat) (es : List En) : MayTo N es 0 := ⟨fun _ _ h => absurd h (Nat.not_lt_zero _), fun _ _ _ h => absurd h (Nat.not_lt_zero _)⟩
theorem MayTo.next {N : Nat} {es : List En} {j : Nat} {a : En} (h : MayTo N es j) (ha : es[j]? = some a) (h1 : mayK a.key = true) (h2 : mayV a.val = true) (h3 : a.page < N) (h4 : ∀ b, 0 < j → es[j - 1]? = some b → cmp b.key a.key < 0) : MayTo N es (j + 1) := by
  refine ⟨fun i e hi he => ?_, fun i x y hi hx hy => ?_⟩
  · by_cases e1 : i = j
    · subst e1
      rw [ha] at he
      cases he
      exact ⟨of_decide_eq_true h1, of_decide_eq_true h2, h3⟩
    · exact h.1 i e (by omega) he
  · by_cases e1 : i + 1 = j
    · subst e1
      rw [ha] at hy
      cases hy
      exact h4 x (by omega) (by simpa using hx)
    · exact h.2 i x y (by omega) hx hy
theorem MayTo.all {N lvl : Nat} {es : List En} (h : MayTo N es es.length) (h1 : es ≠ []) (h2 : 0 < lvl → 2 ≤ es.length) : MayP N lvl es := by
  refine ⟨h1, h2, fun e he => ?_, rise_of fun i a b ha hb => h.2 i a b ?_ ha hb⟩
  · obtain ⟨i, hi⟩ := List.getElem?_of_mem he
    exact h.1 i e (List.getElem?_eq_some_iff.1 hi).1 hi
  · exact (List.getElem?_eq_some_iff.1 hb).1

/-- What may answers. -/
def Mays (w : World) (Q : Prop) (e : Ending) (w' : World) : Prop := ∃ b : Bool, e = .returned (.bool b) ∧ (b = true ↔ Q) ∧ Below w.heap.size w w'

theorem may_empty {p : Int} {N lvl : Nat} {ev tv : Value} {S : Nat → Prop} (w : World) (h : Rd kdEn w S ev []) :
    Calls Tryz.prog 124 #[ndv p (lvl : Int) ev tv, .int .i64 (N : Int)] w (Mays w (MayP N lvl [])) := by
  obtain ⟨ea, ec, rfl, _⟩ := h.shape
  have hb : Below w.heap.size w (w.alloc (.cells #[.int .i64 p, .int .i64 (lvl : Int), .slice ea 0 ec, tv] 85)) := (Below.refl _ _).alloc (Nat.le_refl _) _
  have HB := Lib.hid hb
  clear hb h
  simp only [List.length_nil]
  go_enter Tryz.func124, Tryz.ntmps124
  go_wp2
  go_ret
  exact ⟨false, rfl, ⟨fun h => (nomatch h), fun h => absurd rfl h.1⟩, HB.out⟩
end Go.Proofs.YtgekeemhbnhelaaGreat
namespace Go.Proofs.YtgekeemhbnhelaaGreat
open Go.RowKit

theorem may_lone {p : Int} {N lvl : Nat} {ev tv : Value} {S : Nat → Prop} {es : List En} (w : World) (h : Rd kdEn w S ev es) (hne : es ≠ []) (hl : loneB lvl es.length = true) :
    Calls Tryz.prog 124 #[ndv p (lvl : Int) ev tv, .int .i64 (N : Int)] w (Mays w (MayP N lvl es)) := by
  have hb : Below w.heap.size w (w.alloc (.cells #[.int .i64 p, .int .i64 (lvl : Int), ev, tv] 85)) := (Below.refl _ _).alloc (Nat.le_refl _) _
  have L := lone_any (p := p) (lvl := lvl) (tv := tv) _ (h.step (Step.of_below hb S))
  rw [hl] at L
  have hm : ¬ MayP N lvl es := fun hm => by
    unfold loneB at hl
    simp only [Bool.and_eq_true, decide_eq_true_eq] at hl
    have := hm.2.1 hl.1
    omega
  obtain ⟨ea, ec, rfl, _⟩ := h.shape
  have h0 : ((es.length : Int) == 0) = false := by rw [beq_eq_false_iff_ne]; have := List.length_pos_iff.2 hne; omega
  have HB := Lib.hid (And.intro hb hm)
  clear hb h hl hm
  go_enter Tryz.func124, Tryz.ntmps124
  go_wp2_with fail
  refine L.mono ?_
  rintro e w1 ⟨rfl, hb1⟩
  clear L
  have H1 := Lib.hid hb1
  clear hb1
  go_wp2
  go_ret
  exact ⟨false, rfl, ⟨fun h => (nomatch h), fun h => absurd h HB.out.2⟩, HB.out.1.trans (H1.out.mono (by simp))⟩

set_option maxHeartbeats 2000000 in
theorem may_loop {p : Int} {N lvl : Nat} {ev tv : Value} {S : Nat → Prop} {es : List En} (w : World) (h : Rd kdEn w S ev es) (hne : es ≠ []) (hl : loneB lvl es.length = false) (_hN : N ≤ 4096) (hn : es.length ≤ 4294967296) :
    Calls Tryz.prog 124 #[ndv p (lvl : Int) ev tv, .int .i64 (N : Int)] w (Mays w (MayP N lvl es)) := by
  have hb : Below w.heap.size w (w.alloc (.cells #[.int .i64 p, .int .i64 (lvl : Int), ev, tv] 85)) := (Below.refl _ _).alloc (Nat.le_refl _) _
  have L := lone_any (p := p) (lvl := lvl) (tv := tv) _ (h.step (Step.of_below hb S))
  rw [hl] at L
  have hm : 0 < lvl → 2 ≤ es.length := fun h0 => by
    unfold loneB at hl
    rw [decide_eq_true h0, Bool.true_and] at hl
    have := of_decide_eq_false hl
    omega
  obtain ⟨ea, ec, rfl, _⟩ := h.shape
  have h0 : ((es.length : Int) == 0) = false := by rw [beq_eq_false_iff_ne]; have := List.length_pos_iff.2 hne; omega
  have z : (w.alloc (.cells #[.int .i64 p, .int .i64 (lvl : Int), .slice ea es.length ec, tv] 85)).heap.size = w.heap.size + 1 := by simp
  have cl : (w.alloc (.cells #[.int .i64 p, .int .i64 (lvl : Int), .slice ea es.length ec, tv] 85)).cell? ⟨w.heap.size, 2, none⟩ = some (.slice ea es.length ec) := by simp
  have HH := Lib.hid (And.intro h (And.intro hb (And.intro hm (And.intro z (And.intro cl hne)))))
  clear hb h hl hm z cl hne
  go_enter Tryz.func124, Tryz.ntmps124
  go_wp2_with fail
  refine L.mono ?_
  rintro e w1 ⟨rfl, hb1⟩
  clear L
  obtain ⟨h, hb, hm, z, cl, hne⟩ := HH.out
  have c2 : w1.cell? ⟨w.heap.size, 2, none⟩ = some (.slice ea es.length ec) := (hb1.cell (p := ⟨w.heap.size, 2, none⟩) (by rw [z]; exact Nat.lt_succ_self _)).trans cl
  have hbw := hb.trans (hb1.mono (by simp))
  have hz1 : w.heap.size < w1.heap.size := by have := hb1.size; omega
  have H1 := Lib.hid (And.intro h (And.intro hbw (And.intro hm (And.intro hz1 (And.intro hne c2)))))
  clear h hb hm z cl hne hb1 hbw hz1 HH
  go_wp2
  clear c2
  go_loopw [18] (fun i wr => ∃ j : Nat, j ≤ es.length ∧ i = .int .i64 j ∧ MayTo N es j ∧ Below w1.heap.size w1 wr) (fun i _ => es.length - (intOf i).toNat)
  case atStart => exact ⟨0, Nat.zero_le _, rfl, MayTo.zero _ _, Below.refl _ _⟩
  case round =>
    obtain ⟨j, hj, rfl, hto, hbr⟩ := hrel
    obtain ⟨h, hbw, hm, hz1, hne, c2⟩ := H1.out
    have bw := hbw.trans (hbr.mono (Nat.le_of_lt hz1))
    by_cases hlt : j < es.length
    · obtain ⟨a, ha⟩ : ∃ a, es[j]? = some a := ⟨_, List.getElem?_eq_getElem hlt⟩
      have hr := h.step (Step.of_below bw S)
      obtain ⟨g, o, cap, ka, kc, va, vc, e0, hg, c0, c1, cp, hk, hv⟩ := hr.ent ha
      simp only [Value.slice.injEq] at e0
      obtain ⟨rfl, _, rfl⟩ := e0
      have hil : (j : Int) < (es.length : Int) := by omega
      have hw1 : Below wr.heap.size wr (wr.alloc (.cells #[.slice ka a.key.length kc, .slice va a.val.length vc, .int .i64 (a.page : Nat)] 93)) := (Below.refl _ _).alloc (Nat.le_refl _) _
      have K := mayKey_any _ (hk.1.below hw1)
      have V := mayValue_any _ (hv.1.below hw1)
      have hbf := bw.trans (hw1.mono bw.size)
      have hbf2 := hbr.trans (hw1.mono hbr.size)
      by_cases hmk : mayK a.key = true
      · by_cases hmv : mayV a.val = true
        · by_cases hpg : a.page < N
          · have hpi : ¬ (N : Int) ≤ (a.page : Int) := by omega
            have hpi2 : decide ((N : Int) ≤ (a.page : Int)) = false := by simp; omega
            rw [hmk] at K
            rw [hmv] at V
            by_cases hj0 : j = 0
            · have HT := Lib.hid (And.intro (hto.next ha hmk hmv hpg (fun b h0 => absurd hj0 (by omega))) hbf2)
              clear h hbw hm hz1 hne c2 hto bw hr hk hv hw1 hbf hbf2 ha hmk hmv hpg hbr
              subst hj0
              simp only [Nat.zero_mul, Nat.add_zero] at c0 c1 cp
              go_wp2_with fail
              refine K.mono ?_
              rintro e w2 ⟨rfl, rfl⟩
              clear K
              go_wp2_with fail
              refine V.mono ?_
              rintro e w2 ⟨rfl, rfl⟩
              clear V
              go_wp2_with fail
              go_quiet (fail)
              go_wp2
              go_roundw
              case rel => exact ⟨1, by omega, by go_num, HT.out.1, below_drewN HT.out.2 _⟩
              case measure => simp [intOf]; omega
            · obtain ⟨k, rfl⟩ : ∃ k, j = k + 1 := ⟨j - 1, by omega⟩
              obtain ⟨b, hb⟩ : ∃ b, es[k]? = some b := ⟨_, List.getElem?_eq_getElem (by omega)⟩
              obtain ⟨g', o', cap', kb, kd, _, _, e0, hg', d0, _, _, hkb, _⟩ := hr.ent hb
              simp only [Value.slice.injEq, Option.some.injEq, Addr.mk.injEq] at e0
              obtain ⟨⟨rfl, rfl, _⟩, _, rfl⟩ := e0
              have O := fun n => order_cmp ((wr.alloc (.cells #[.slice ka a.key.length kc, .slice va a.val.length vc, .int .i64 (a.page : Nat)] 93)).drewN n) ((hkb.1.below hw1).drewN n) ((hk.1.below hw1).drewN n)
              have hki : ((k : Int) + 1) - 1 = (k : Int) := by omega
              have hkl : (k : Int) < (es.length : Int) := by omega
              have hk0 : (0 : Int) ≤ (k : Int) := by omega
              have hkp : (0 : Int) < (k : Int) + 1 := by omega
              have hdp : decide ((0 : Int) < (k : Int) + 1) = true := decide_eq_true (by omega)
              have n2 : (wr.alloc (.cells #[.slice ka a.key.length kc, .slice va a.val.length vc, .int .i64 (a.page : Nat)] 93)).cell? ⟨w.heap.size, 2, none⟩ = some (.slice (some ⟨g, o, none⟩) es.length ec) := (hbf2.cell (p := ⟨w.heap.size, 2, none⟩) hz1).trans c2
              have n0 : (wr.alloc (.cells #[.slice ka a.key.length kc, .slice va a.val.length vc, .int .i64 (a.page : Nat)] 93)).cell? ⟨g, o + k * 3, none⟩ = some (.slice kb b.key.length kd) := (hw1.cell (p := ⟨g, o + k * 3, none⟩) hg).trans d0
              by_cases hc : cmp b.key a.key < 0
              · have HT := Lib.hid (And.intro (hto.next ha hmk hmv hpg (fun x _ hx => by
                  rw [Nat.add_sub_cancel, hb] at hx
                  cases hx
                  exact hc)) hbf2)
                generalize cmp b.key a.key = x at *
                have hx : ¬ (0 : Int) ≤ x := by omega
                have HO := Lib.hid O
                clear h hbw hm hz1 hne c2 hto bw hr hk hv hw1 hbf hbf2 ha hmk hmv hpg hbr hj0 hb hkb O hc
                go_wp2_with fail
                refine K.mono ?_
                rintro e w2 ⟨rfl, rfl⟩
                clear K
                go_wp2_with fail
                refine V.mono ?_
                rintro e w2 ⟨rfl, rfl⟩
                clear V
                go_wp2_with fail
                go_quiet ((go_at_call 56; exact quiet_left (HO.out _)))
                go_wp2
                go_roundw
                case rel => exact ⟨k + 1 + 1, by omega, by go_num, HT.out.1, below_drewN HT.out.2 _⟩
                case measure => simp [intOf]; omega
              · have hno : ¬ MayP N lvl es := fun hm => hc (hm.2.2.2.lt hb ha (by omega))
                have HT := Lib.hid (And.intro hno hbf)
                generalize cmp b.key a.key = x at *
                have hx : (0 : Int) ≤ x := by omega
                have HO := Lib.hid O
                clear h hbw hm hz1 hne c2 hto bw hr hk hv hw1 hbf hbf2 ha hmk hmv hpg hbr hj0 hb hkb O hc hno
                go_wp2_with fail
                refine K.mono ?_
                rintro e w2 ⟨rfl, rfl⟩
                clear K
                go_wp2_with fail
                refine V.mono ?_
                rintro e w2 ⟨rfl, rfl⟩
                clear V
                go_wp2_with fail
                go_quiet ((go_at_call 56; exact quiet_left (HO.out _)))
                go_wp2
                go_ret
                exact ⟨false, rfl, ⟨fun h => (nomatch h), fun h => absurd h HT.out.1⟩, below_drewN HT.out.2 _⟩
          · have hno : ¬ MayP N lvl es := fun hm => hpg (hm.2.2.1 a (List.mem_of_getElem? ha)).2.2
            have hpi : (N : Int) ≤ (a.page : Int) := by omega
            rw [hmk] at K
            rw [hmv] at V
            have HT := Lib.hid (And.intro hno hbf)
            clear h hbw hm hz1 hne c2 hto bw hr hk hv hw1 hbf hbf2 ha hmk hmv hpg hbr hno
            go_wp2_with fail
            refine K.mono ?_
            rintro e w2 ⟨rfl, rfl⟩
            clear K
            go_wp2_with fail
            refine V.mono ?_
            rintro e w2 ⟨rfl, rfl⟩
            clear V
            go_wp2
            go_ret
            exact ⟨false, rfl, ⟨fun h => (nomatch h), fun h => absurd h HT.out.1⟩, HT.out.2⟩
        · rw [Bool.not_eq_true] at hmv
          rw [hmk] at K
          rw [hmv] at V
          have hno : ¬ MayP N lvl es := fun hm => by
            have := (hm.2.2.1 a (List.mem_of_getElem? ha)).2.1
            unfold mayV at hmv
            have := of_decide_eq_false hmv
            omega
          have HT := Lib.hid (And.intro hno hbf)
          clear h hbw hm hz1 hne c2 hto bw hr hk hv hw1 hbf hbf2 ha hmk hmv hbr hno
          go_wp2_with fail
          refine K.mono ?_
          rintro e w2 ⟨rfl, rfl⟩
          clear K
          go_wp2_with fail
          refine V.mono ?_
          rintro e w2 ⟨rfl, rfl⟩
          clear V
          go_wp2
          go_ret
          exact ⟨false, rfl, ⟨fun h => (nomatch h), fun h => absurd h HT.out.1⟩, HT.out.2⟩
      · rw [Bool.not_eq_true] at hmk
        rw [hmk] at K
        have hno : ¬ MayP N lvl es := fun hm => by
          have := (hm.2.2.1 a (List.mem_of_getElem? ha)).1
          unfold mayK at hmk
          have := of_decide_eq_false hmk
          omega
        have HT := Lib.hid (And.intro hno hbf)
        clear h hbw hm hz1 hne c2 hto bw hr hk hv hw1 hbf hbf2 ha hmk V hbr hno
        go_wp2_with fail
        refine K.mono ?_
        rintro e w2 ⟨rfl, rfl⟩
        clear K
        go_wp2
        go_ret
        exact ⟨false, rfl, ⟨fun h => (nomatch h), fun h => absurd h HT.out.1⟩, HT.out.2⟩
    · obtain rfl : j = es.length := by omega
      have HT := Lib.hid (And.intro (hto.all (lvl := lvl) hne hm) bw)
      clear h hbw hm hz1 hne c2 hto bw hbr
      go_wp2
      go_ret
      exact ⟨true, rfl, ⟨fun _ => HT.out.1, fun _ => rfl⟩, HT.out.2⟩

theorem may_any {p : Int} {N lvl : Nat} {ev tv : Value} {S : Nat → Prop} {es : List En} (w : World) (h : Rd kdEn w S ev es) (hN : N ≤ 4096) (hn : es.length ≤ 4294967296) :
    Calls Tryz.prog 124 #[ndv p (lvl : Int) ev tv, .int .i64 (N : Int)] w (Mays w (MayP N lvl es)) := by
  by_cases hne : es = []
  · subst hne
    exact may_empty w h
  · cases hl : loneB lvl es.length
    · exact may_loop w h hne hl hN hn
    · exact may_lone w h hne hl
end Go.Proofs.YtgekeemhbnhelaaGreat
namespace Go.Proofs.YtgekeemhbnhelaaGreat
open Go.RowKit

/-- These entries stand ahead of a place of a body. -/
inductive Pars (l : Bytes) (lvl : Nat) : List En → Int → Prop
  | nil : Pars l lvl [] 2
  | snoc {es : List En} {p p' : Int} {e : En} : Pars l lvl es p → p < (l.length : Int) → takenV l p lvl = some (e, p') → Pars l lvl (es ++ [e]) p'

theorem takenV_some {l : Bytes} {p p' : Int} {lvl : Nat} {e : En} (h : takenV l p lvl = some (e, p')) : p + 2 ≤ p' ∧ p' ≤ l.length ∧ e.key.length ≤ 65535 ∧ e.val.length ≤ 65535 ∧ e.page ≤ 4294967295 := by
  unfold takenV at h
  by_cases h1 : tbOk l p
  · rw [if_pos h1] at h
    have k1 := take_two_lt l p
    have hk : (tbL l p).length ≤ 65535 := by
      unfold tbL
      rw [if_pos h1, List.length_take]
      omega
    by_cases h0 : lvl = 0
    · rw [if_pos h0] at h
      by_cases h2 : tbOk l (p + 2 + tbN l p)
      · rw [if_pos h2] at h
        simp only [Option.some.injEq, Prod.mk.injEq] at h
        obtain ⟨rfl, rfl⟩ := h
        have k2 := take_two_lt l (p + 2 + tbN l p)
        have h3 := h2.2
        refine ⟨by omega, by omega, hk, ?_, Nat.zero_le _⟩
        show (tbL l (p + 2 + tbN l p)).length ≤ 65535
        unfold tbL
        rw [if_pos h2, List.length_take]
        omega
      · rw [if_neg h2] at h
        cases h
    · rw [if_neg h0] at h
      by_cases h2 : takeMay l (p + 2 + tbN l p) 4 ∧ 4 ≤ (l.length : Int) - (p + 2 + tbN l p)
      · rw [if_pos h2] at h
        simp only [Option.some.injEq, Prod.mk.injEq] at h
        obtain ⟨rfl, rfl⟩ := h
        refine ⟨by omega, by omega, hk, Nat.zero_le _, ?_⟩
        show takeN l (p + 2 + tbN l p) 4 ≤ 4294967295
        unfold takeN
        rw [if_pos h2]
        have := beNat_lt ((l.drop (p + 2 + tbN l p : Int).toNat).take (4 : Int).toNat)
        have h4 : ((l.drop (p + 2 + tbN l p : Int).toNat).take (4 : Int).toNat).length ≤ 4 := by rw [List.length_take]; exact Nat.min_le_left _ _
        have := Nat.lt_of_lt_of_le this (Nat.pow_le_pow_right (by decide) h4)
        omega
      · rw [if_neg h2] at h
        cases h
  · rw [if_neg h1] at h
    cases h
theorem Pars.len {l : Bytes} {lvl : Nat} {es : List En} {p : Int} (h : Pars l lvl es p) (hl : 2 ≤ l.length) : 2 + 2 * (es.length : Int) ≤ p ∧ p ≤ l.length ∧ ∀ e ∈ es, e.key.length ≤ 65535 ∧ e.val.length ≤ 65535 ∧ e.page ≤ 4294967295 := by
  induction h with
  | nil => exact ⟨by simp, by omega, fun _ h => by cases h⟩
  | snoc _ _ h2 ih =>
    have := takenV_some h2
    rw [List.length_append]
    refine ⟨by simp; omega, by omega, fun e he => ?_⟩
    rcases List.mem_append.1 he with h3 | h3
    · exact ih.2.2 e h3
    · simp only [List.mem_singleton] at h3
      subst h3
      exact this.2.2

/-- What a block says of a node: that, or why there is none. -/
def Says (N : Nat) (l : Bytes) (r : Option (Nat × List En)) : Prop :=
  match r with
  | some (lvl, es) => (openV l).2.2 = 0 ∧ (openV l).1 = 3 ∧ 2 ≤ (openV l).2.1.length ∧ lvl = beNat ((openV l).2.1.take 2) ∧ Pars (openV l).2.1 lvl es (openV l).2.1.length ∧ MayP N lvl es
  | none => (openV l).2.2 ≠ 0 ∨ (openV l).1 ≠ 3 ∨ (openV l).2.1.length < 2 ∨ (∃ es p, Pars (openV l).2.1 (beNat ((openV l).2.1.take 2)) es p ∧ p < (openV l).2.1.length ∧ takenV (openV l).2.1 p (beNat ((openV l).2.1.take 2)) = none) ∨
    ∃ es, Pars (openV l).2.1 (beNat ((openV l).2.1.take 2)) es (openV l).2.1.length ∧ ¬ MayP N (beNat ((openV l).2.1.take 2)) es
/-- What opened answers. -/
def Openeds (w : World) (S : Nat → Prop) (N : Nat) (l : Bytes) (e : Ending) (w' : World) : Prop :=
  ∃ v r, e = .returned (.tuple #[v, .bool (Option.isSome r)]) ∧ Says N l r ∧ Nv w' S v (match r with | some (lvl, es) => ⟨0, lvl, es, []⟩ | none => ⟨0, 0, [], []⟩) ∧ Below w.heap.size w w'

def mOp (n : Nat) (e i : Value) : Nat := if intOf e = 0 then n + 1 - (intOf i).toNat else 0
theorem mOp_zero (n : Nat) (i : Int) : mOp n (err 0) (.int .i64 i) = n + 1 - i.toNat := if_pos rfl
theorem mOp_ne (n : Nat) {c : Int} (i : Int) (h : c ≠ 0) : mOp n (err c) (.int .i64 i) = 0 := if_neg h

theorem nv_zero (w : World) (S : Nat → Prop) : Nv w S (ndv 0 0 (.slice none 0 0) (.slice none 0 0)) ⟨0, 0, [], []⟩ := Nv.of (n := ⟨0, 0, [], []⟩) (Rd.nil kdEn w S) (Bsf.nil w S)

set_option maxHeartbeats 1000000 in
theorem opened_not {b : Value} {l : Bytes} {S : Nat → Prop} (N : Nat) (w : World) (hb : Bs w b l) (h : (openV l).2.2 ≠ 0 ∨ (openV l).1 ≠ 3) :
    Calls Tryz.prog 94 #[b, .int .i64 (N : Int)] w (Openeds w S N l) := by
  have hs : Says N l none := h.elim .inl fun h => .inr (.inl h)
  have hb0 : Below w.heap.size w (w.alloc (.cells #[.int .i64 0, .int .i64 0, .slice none 0 0, .slice none 0 0] 85)) := (Below.refl _ _).alloc (Nat.le_refl _) _
  have C0 : Cel (w.alloc (.cells #[.int .i64 0, .int .i64 0, .slice none 0 0, .slice none 0 0] 85)) w.heap.size [.int .i64 0, .int .i64 0, .slice none 0 0, .slice none 0 0] 85 := Cel.new w _ _
  have O := blkOpen_any _ (hb.below hb0)
  unfold Opens at O
  have HH := Lib.hid (And.intro hb0 (And.intro C0 hs))
  have h3 : (openV l).1 ≠ 3 → ((((openV l).1.toNat : Nat) : Int) == 3) = false := fun h => by
    rw [beq_eq_false_iff_ne]
    intro e
    apply h
    have e2 : (openV l).1.toNat = (3 : UInt8).toNat := by
      show (openV l).1.toNat = 3
      omega
    exact UInt8.toNat_inj.1 e2
  clear hb0 C0 hb hs
  generalize (openV l).1.toNat = kn at *
  generalize (openV l).2.1 = bd at *
  generalize hc : (openV l).2.2 = c at *
  by_cases hc0 : c = 0
  · have h4 := h3 (h.resolve_left (fun h => h hc0))
    subst hc0
    clear h h3 hc
    go_enter Tryz.func94, Tryz.ntmps94
    go_wp2_with fail
    refine O.mono ?_
    rintro e w1 ⟨v, rfl, ho, hb1⟩
    clear O
    have C1 := HH.out.2.1.below hb1 HH.out.2.1.lt
    have c0 : w1.cell? ⟨w.heap.size, 0, none⟩ = some (.int .i64 0) := C1.cell 0
    have c1 : w1.cell? ⟨w.heap.size, 1, none⟩ = some (.int .i64 0) := C1.cell 1
    have c2 : w1.cell? ⟨w.heap.size, 2, none⟩ = some (.slice none 0 0) := C1.cell 2
    have c3 : w1.cell? ⟨w.heap.size, 3, none⟩ = some (.slice none 0 0) := C1.cell 3
    have f0 := C1.frozen 0
    have f1 := C1.frozen 1
    have f2 := C1.frozen 2
    have f3 := C1.frozen 3
    go_wp2
    obtain ⟨hb0, _, hs⟩ := HH.out
    have C5 := (((C1.set 0 (.int .i64 0)).set 1 (.int .i64 0)).set 2 (.slice none 0 0)).set 3 (.slice none 0 0)
    exact bodyPost_ret (results_cell2 (g := w.heap.size) rfl rfl C5 Tryz.underlying85 rfl (by kernel_rfl)) rfl ⟨_, none, rfl, hs, nv_zero _ S,
      ((((hb0.trans (hb1.mono (by simp))).setCell (p := ⟨w.heap.size, 0, none⟩) (Nat.le_refl _) _).setCell (p := ⟨w.heap.size, 1, none⟩) (Nat.le_refl _) _).setCell (p := ⟨w.heap.size, 2, none⟩) (Nat.le_refl _) _).setCell (p := ⟨w.heap.size, 3, none⟩) (Nat.le_refl _) _⟩
  · have hcb : (c == 0) = false := by rw [beq_eq_false_iff_ne]; exact hc0
    clear h h3 hc
    go_enter Tryz.func94, Tryz.ntmps94
    go_wp2_with fail
    refine O.mono ?_
    rintro e w1 ⟨v, rfl, ho, hb1⟩
    clear O
    have C1 := HH.out.2.1.below hb1 HH.out.2.1.lt
    have c0 : w1.cell? ⟨w.heap.size, 0, none⟩ = some (.int .i64 0) := C1.cell 0
    have c1 : w1.cell? ⟨w.heap.size, 1, none⟩ = some (.int .i64 0) := C1.cell 1
    have c2 : w1.cell? ⟨w.heap.size, 2, none⟩ = some (.slice none 0 0) := C1.cell 2
    have c3 : w1.cell? ⟨w.heap.size, 3, none⟩ = some (.slice none 0 0) := C1.cell 3
    have f0 := C1.frozen 0
    have f1 := C1.frozen 1
    have f2 := C1.frozen 2
    have f3 := C1.frozen 3
    go_wp2
    obtain ⟨hb0, _, hs⟩ := HH.out
    have C5 := (((C1.set 0 (.int .i64 0)).set 1 (.int .i64 0)).set 2 (.slice none 0 0)).set 3 (.slice none 0 0)
    exact bodyPost_ret (results_cell2 (g := w.heap.size) rfl rfl C5 Tryz.underlying85 rfl (by kernel_rfl)) rfl ⟨_, none, rfl, hs, nv_zero _ S,
      ((((hb0.trans (hb1.mono (by simp))).setCell (p := ⟨w.heap.size, 0, none⟩) (Nat.le_refl _) _).setCell (p := ⟨w.heap.size, 1, none⟩) (Nat.le_refl _) _).setCell (p := ⟨w.heap.size, 2, none⟩) (Nat.le_refl _) _).setCell (p := ⟨w.heap.size, 3, none⟩) (Nat.le_refl _) _⟩

theorem Bs.below_set {w : World} {v : Value} {l : List UInt8} {g i : Nat} {u : Value} (h : Bs w v l) (hne : ∀ q, v.ownBlock = some q → q ≠ g) : Bs (w.setCell ⟨g, i, none⟩ u) v l :=
  h.only (S := fun q => q = g) ((Only.refl (fun q => q = g) w).setCell (p := ⟨g, i, none⟩) (.inl rfl) u) fun q hq e => hne q hq e
/-- What has been taken so far: entries up to a place, or an error and so no node. -/
def Sofar (N : Nat) (l : Bytes) (lvl : Nat) (c : Int) (es : List En) (p : Int) : Prop :=
  (c = 0 ∧ 2 ≤ (openV l).2.1.length ∧ lvl = beNat ((openV l).2.1.take 2) ∧ Pars (openV l).2.1 lvl es p) ∨ (c ≠ 0 ∧ Says N l none)
theorem Sofar.start (N : Nat) (l : Bytes) : Sofar N l (takeN (openV l).2.1 0 2) (takeE (openV l).2.1 0 2) [] (takeX (openV l).2.1 0 2) := by
  have hm : takeMay (openV l).2.1 0 2 := ⟨rfl, by omega, by omega⟩
  by_cases h : (2 : Int) ≤ (openV l).2.1.length - 0
  · refine .inl ⟨?_, by omega, ?_, ?_⟩
    · unfold takeE; rw [if_pos hm, if_pos h]
    · unfold takeN; rw [if_pos ⟨hm, h⟩]; rfl
    · unfold takeX; rw [if_pos ⟨hm, h⟩]; exact .nil
  · refine .inr ⟨?_, .inr (.inr (.inl (by omega)))⟩
    unfold takeE; rw [if_pos hm, if_neg h]; decide
theorem ns_own {v v' : Value} {w : World} (h : v'.ownBlock = v.ownBlock ∨ v'.ownBlock = some w.heap.size) {g : Nat} (hg : v.ownBlock ≠ some g) (hl : g < w.heap.size) : v'.ownBlock ≠ some g := by
  rcases h with h | h
  · rw [h]; exact hg
  · rw [h]
    intro e
    cases e
    omega

/-- The loop's state. -/
structure OpR (w : World) (S : Nat → Prop) (N : Nat) (l : Bytes) (bv : Value) (lvl : Nat) (wr : World) (c p : Int) (es : List En) (v : Value) (Sx : Nat → Prop) : Prop where
  sofar : Sofar N l lvl c es p
  cel : Cel wr w.heap.size [.int .i64 0, .int .i64 (lvl : Nat), v, .slice none 0 0] 85
  ro : Ro kdEn 93 wr Sx v es
  step : Step S w wr Sx
  incl : ∀ q, S q → Sx q
  node : Sx w.heap.size
  apart : v.ownBlock ≠ some w.heap.size
  body : Bsf wr Sx bv (openV l).2.1
  lt : ∀ q, Sx q → q < wr.heap.size
  bel : Below w.heap.size w wr
  vown : ∀ q, v.ownBlock = some q → w.heap.size ≤ q

set_option maxRecDepth 100000 in
set_option maxHeartbeats 2000000 in
theorem opened_main {b : Value} {l : Bytes} {S : Nat → Prop} (N : Nat) (w : World) (hb : Bs w b l) (hS : ∀ q, S q → q < w.heap.size) (hN : N ≤ 4096) (h0 : (openV l).2.2 = 0) (h3 : (openV l).1 = 3) :
    Calls Tryz.prog 94 #[b, .int .i64 (N : Int)] w (Openeds w S N l) := by
  have hb0 : Below w.heap.size w (w.alloc (.cells #[.int .i64 0, .int .i64 0, .slice none 0 0, .slice none 0 0] 85)) := (Below.refl _ _).alloc (Nat.le_refl _) _
  have C0 : Cel (w.alloc (.cells #[.int .i64 0, .int .i64 0, .slice none 0 0, .slice none 0 0] 85)) w.heap.size [.int .i64 0, .int .i64 0, .slice none 0 0, .slice none 0 0] 85 := Cel.new w _ _
  have O := blkOpen_any _ (hb.below hb0)
  have hbl : (openV l).2.1.length ≤ 505 := by
    have := (seal_open h0).2.2
    omega
  unfold Opens at O
  have hss := Sofar.start N l
  rw [h0, h3] at O
  have HH := Lib.hid (And.intro hb0 (And.intro C0 (And.intro hS hss)))
  have H3 := Lib.hid (And.intro h0 (And.intro h3 hbl))
  clear hb0 C0 hb h0 h3 hS hss
  go_enter Tryz.func94, Tryz.ntmps94
  go_wp2_with fail
  refine O.mono ?_
  rintro e w1 ⟨bv, rfl, ho, hb1⟩
  clear O
  obtain ⟨hb0, C0, hS, hss⟩ := HH.out
  have T := Go.Proofs.YtgekeemhbnhelaaGreat.take_any 0 2 _ ho.bs (by omega)
  unfold Takes at T
  have hN16 : takeN (openV l).2.1 0 2 < 65536 := by
    unfold takeN
    split
    · have := beNat_lt (((openV l).2.1.drop (0 : Int).toNat).take (2 : Int).toNat)
      have h2 : (((openV l).2.1.drop (0 : Int).toNat).take (2 : Int).toNat).length ≤ 2 := by rw [List.length_take]; exact Nat.min_le_left _ _
      exact Nat.lt_of_lt_of_le this (Nat.pow_le_pow_right (by decide) h2)
    · decide
  have C1 := C0.below hb1 C0.lt
  have H1 := Lib.hid (And.intro (hb0.trans (hb1.mono (by simp))) (And.intro C1 (And.intro ho (And.intro hS hss))))
  clear hb0 C0 hb1 C1 ho hS hss HH
  generalize hlv : takeN (openV l).2.1 0 2 = lvl at *
  generalize hat : takeX (openV l).2.1 0 2 = at0 at *
  generalize hec : takeE (openV l).2.1 0 2 = ec at *
  have hl0 : (lvl : Int) < 65536 := by omega
  clear hlv hat hec
  go_wp2_with fail
  refine T.mono ?_
  rintro e w2 ⟨rfl, hb2⟩
  clear T
  have C2 := H1.out.2.1.below hb2 H1.out.2.1.lt
  have c1 : w2.cell? ⟨w.heap.size, 1, none⟩ = some (.int .i64 0) := C2.cell 1
  have f1 := C2.frozen 1
  obtain ⟨ba, bc, rfl, _⟩ := H1.out.2.2.1.bs.shape
  have hstart : OpR w S N l (.slice ba (openV l).2.1.length bc) lvl (w2.setCell ⟨w.heap.size, 1, none⟩ (.int .i64 (lvl : Nat))) ec at0 [] (.slice none 0 0) (fun q => S q ∨ q = w.heap.size) := by
    obtain ⟨hb1, C1, ho, hS, hss⟩ := H1.out
    have hbw := hb1.trans (hb2.mono hb1.size)
    have hst : Step S w w2 (fun q => S q ∨ q = w.heap.size) := ⟨Only.of_below hbw S, fun q hq => hq.elim .inl fun e => .inr (by omega)⟩
    refine ⟨hss, C2.set 1 _, Ro.nil _ _ _ _, hst.set (.inr rfl) _, fun q h => .inl h, .inr rfl, (fun h => by cases h), ?_, fun q hq => ?_, hbw.setCell (p := ⟨w.heap.size, 1, none⟩) (Nat.le_refl _) _, fun q h => by cases h⟩
    · have h1 : Bs w2 (.slice ba (openV l).2.1.length bc) (openV l).2.1 := ho.bs.below hb2
      refine ⟨h1.below_set ?_, fun _ q hq hs => ?_⟩
      · intro q hq
        have := (World.ownsRow.lt ho q hq).1
        simp at this
        omega
      · have h2 := (World.ownsRow.lt ho q hq).1
        simp at h2
        rcases hs with h | h
        · have := hS q h
          omega
        · omega
    · have hz := C2.lt
      have hz2 := hbw.size
      simp only [World.setCell, Array.size_modify]
      rcases hq with h | h
      · have := hS q h
        omega
      · omega
  have H2 := Lib.hid hstart
  have hbl := H3.out.2.2
  clear hstart hb2 C2
  go_wp2
  go_loopw [8, 10] (fun e i wr => ∃ c p es v Sx, e = err c ∧ i = .int .i64 p ∧ OpR w S N l (.slice ba (openV l).2.1.length bc) lvl wr c p es v Sx) (fun e i _ => mOp (openV l).2.1.length e i)
  case atStart => exact ⟨ec, at0, [], _, _, rfl, rfl, H2.out⟩
  case round =>
    clear c1 f1 H2
    obtain ⟨c, p, es, v, Sx, rfl, rfl, hR⟩ := hrel
    by_cases hgo : c = 0 ∧ p < (openV l).2.1.length
    · obtain ⟨rfl, hp⟩ := hgo
      obtain ⟨_, hbd2, hlv, hpar⟩ := hR.sofar.resolve_right (fun h => h.1 rfl)
      obtain ⟨hpl, hpm, hfew⟩ := hpar.len hbd2
      have hz := hR.cel.lt
      have k1 : wr.cell? ⟨w.heap.size, 1, none⟩ = some (.int .i64 (lvl : Nat)) := hR.cel.cell 1
      have hwa : Below wr.heap.size wr (wr.alloc (.cells #[.slice none 0 0, .slice none 0 0, .int .i64 0] 93)) := (Below.refl _ _).alloc (Nat.le_refl _) _
      have CE : Cel (wr.alloc (.cells #[.slice none 0 0, .slice none 0 0, .int .i64 0] 93)) wr.heap.size [.slice none 0 0, .slice none 0 0, .int .i64 0] 93 := Cel.new wr _ _
      have T := taken_any p lvl _ (hR.body.1.below hwa) (by omega)
      have hza : (wr.alloc (.cells #[.slice none 0 0, .slice none 0 0, .int .i64 0] 93)).heap.size = wr.heap.size + 1 := by simp
      have k1a : (wr.alloc (.cells #[.slice none 0 0, .slice none 0 0, .int .i64 0] 93)).cell? ⟨w.heap.size, 1, none⟩ = some (.int .i64 (lvl : Nat)) := (hwa.cell (p := ⟨w.heap.size, 1, none⟩) hz).trans k1
      have H4 := Lib.hid (And.intro hR (And.intro hbd2 (And.intro hlv (And.intro hpar (And.intro hpl (And.intro hpm hfew))))))
      have H5 := Lib.hid (And.intro hwa (And.intro CE (And.intro hza hz)))
      clear hR hbd2 hlv hpar hpl hpm hfew hwa CE hza hz k1
      unfold Takens at T
      generalize hr : takenV (openV l).2.1 p lvl = r at *
      have H6 := Lib.hid hr
      clear hr
      go_wp2_with fail
      refine T.mono ?_
      rintro e w3 ⟨kv, vv, nx, c', en, rfl, hok, hov, hb3, hres⟩
      clear T k1a
      obtain ⟨hR, hbd2, hlv, hpar, hpl, hpm, hfew⟩ := H4.out
      obtain ⟨hwa, CE, hza, hz⟩ := H5.out
      have CE3 := CE.below hb3 CE.lt
      have e0 : w3.cell? ⟨wr.heap.size, 0, none⟩ = some (.slice none 0 0) := CE3.cell 0
      have e1 : w3.cell? ⟨wr.heap.size, 1, none⟩ = some (.slice none 0 0) := CE3.cell 1
      have e2 : w3.cell? ⟨wr.heap.size, 2, none⟩ = some (.int .i64 0) := CE3.cell 2
      have g0 := CE3.frozen 0
      have g1 := CE3.frozen 1
      have g2 := CE3.frozen 2
      obtain ⟨ka, kc, rfl, _⟩ := hok.bs.shape
      obtain ⟨va, vc, rfl, _⟩ := hov.bs.shape
      have CE4 := ((CE3.set 0 (.slice ka en.key.length kc)).set 1 (.slice va en.val.length vc)).set 2 (.int .i64 (en.page : Nat))
      have hw3 := hwa.trans (hb3.mono (by omega))
      have hR3 : Ro kdEn 93 w3 Sx v es := hR.ro.below hw3
      have C3 := hR.cel.below hw3 hz
      obtain ⟨sa, sc, rfl, _⟩ := hR.ro.shape
      have n2 : w3.cell? ⟨w.heap.size, 2, none⟩ = some (.slice sa es.length sc) := C3.cell 2
      have m2 := C3.frozen 2
      -- the world behind the store of the entry
      obtain ⟨w4, hw4⟩ : ∃ w4, w4 = ((w3.setCell ⟨wr.heap.size, 0, none⟩ (.slice ka en.key.length kc)).setCell ⟨wr.heap.size, 1, none⟩ (.slice va en.val.length vc)).setCell ⟨wr.heap.size, 2, none⟩ (.int .i64 (en.page : Nat)) := ⟨_, rfl⟩
      have hlt := hR.lt
      have stw : Step Sx wr w4 Sx := by
        rw [hw4]
        exact ⟨(((Only.of_below hw3 Sx).setCell (p := ⟨wr.heap.size, 0, none⟩) (.inr (Nat.le_refl _)) _).setCell (p := ⟨wr.heap.size, 1, none⟩) (.inr (Nat.le_refl _)) _).setCell (p := ⟨wr.heap.size, 2, none⟩) (.inr (Nat.le_refl _)) _, fun _ h => .inl h⟩
      have hsame : ∀ g, g < wr.heap.size → w4.heap[g]? = wr.heap[g]? := fun g hg => by
        rw [hw4, Below.heap_setCell _ _ _ _ (by simp; omega), Below.heap_setCell _ _ _ _ (by simp; omega), Below.heap_setCell _ _ _ _ (by simp; omega)]
        exact hw3.block g hg
      have hRo4 : Ro kdEn 93 w4 Sx (.slice sa es.length sc) es := hR.ro.keep (fun g hg => hsame g (hlt g (hR.ro.inS hg))) stw (fun _ h => h)
      have hz4 : w4.heap.size = w3.heap.size := by rw [hw4]; simp [World.setCell]
      have own4 : ∀ {v : Value} {m : Bytes}, Ow w3 (wr.alloc (.cells #[.slice none 0 0, .slice none 0 0, .int .i64 0] 93)).heap.size 5 v m → Bsf w4 Sx v m := fun ho => by
        rw [hza] at ho
        refine ⟨?_, fun _ q hq hs => ?_⟩
        · rw [hw4]
          exact (ow_off (ow_off (ow_off ho (Nat.lt_succ_self _)) (Nat.lt_succ_self _)) (Nat.lt_succ_self _)).bs
        · have := (World.ownsRow.lt ho q hq).1
          have := hlt q hs
          omega
      have lit : Rd kdEn (w4.alloc (.cells #[.slice ka en.key.length kc, .slice va en.val.length vc, .int .i64 (en.page : Nat)] 93)) Sx (.slice (some ⟨w4.heap.size, 0, none⟩) 1 1) [en] :=
        rd_lit kdEn w4 93 Sx (fun q hq => Nat.lt_of_lt_of_le (hlt q hq) stw.size) [⟨⟨ka, en.key.length, kc⟩, ⟨va, en.val.length, vc⟩, en⟩] _ rfl (fun t ht => by
          simp only [List.mem_singleton] at ht
          subst ht
          exact ⟨own4 hok, own4 hov⟩) (by simp) rfl
      have hRo5 := hRo4.below ((Below.refl w4.heap.size w4).alloc (Nat.le_refl _) (.cells #[.slice ka en.key.length kc, .slice va en.val.length vc, .int .i64 (en.page : Nat)] 93))
      have C6 : ∀ w6, (w4.alloc (.cells #[.slice ka en.key.length kc, .slice va en.val.length vc, .int .i64 (en.page : Nat)] 93)).grownBy w6 (Value.slice sa es.length sc).ownBlock → Cel w6 w.heap.size [.int .i64 0, .int .i64 (lvl : Nat), .slice sa es.length sc, .slice none 0 0] 85 := fun w6 hg => by
        have h4 : Cel w4 w.heap.size [.int .i64 0, .int .i64 (lvl : Nat), .slice sa es.length sc, .slice none 0 0] 85 := hR.cel.kept (hsame _ hz)
        exact (h4.alloc _).kept (hg.block _ (h4.alloc _).lt fun e => hR.apart e.symm)
      have stA : Step Sx wr (w4.alloc (.cells #[.slice ka en.key.length kc, .slice va en.val.length vc, .int .i64 (en.page : Nat)] 93)) Sx := stw.alloc _
      have blA : Below w.heap.size w w4 := by
        rw [hw4]
        exact (((hR.bel.trans (hw3.mono hR.bel.size)).setCell (p := ⟨wr.heap.size, 0, none⟩) hR.bel.size _).setCell (p := ⟨wr.heap.size, 1, none⟩) hR.bel.size _).setCell (p := ⟨wr.heap.size, 2, none⟩) hR.bel.size _
      have hwz : w.heap.size < (w4.alloc (.cells #[.slice ka en.key.length kc, .slice va en.val.length vc, .int .i64 (en.page : Nat)] 93)).heap.size := by have := stA.size; omega
      have HC := Lib.hid C6
      have HS := Lib.hid (And.intro stA (And.intro hwz (blA.alloc blA.size (.cells #[.slice ka en.key.length kc, .slice va en.val.length vc, .int .i64 (en.page : Nat)] 93))))
      rw [hz4] at lit
      rw [hw4] at lit hRo5 HC HS
      have hne : w.heap.size ≠ wr.heap.size := by omega
      have hn1 : es.length + [en].length ≤ 4294967296 := by simp; omega
      have H7 := Lib.hid (And.intro hR (And.intro hres (And.intro hp (And.intro hbd2 (And.intro hlv (And.intro hpar hpl))))))
      clear hz4 C6 stA blA hwz own4 hsame stw hR hbd2 hlv hpar hpl hpm hfew hwa CE hza CE3 CE4 hw3 hR3 C3 hRo4 hlt hok hov hb3 hres hw4 H5
      go_wp2_with (at_builtin; refine wpList_append_ro ent_ty rfl (.tmp 52) (.tmp 54) rfl rfl rfl hRo5 lit hn1 ?_; intro v' w6 ro6 st6 gr6 lo6; obtain ⟨ua, uc, rfl, _⟩ := ro6.shape; have C6 := HC.out _ gr6; have q2 : w6.cell? ⟨w.heap.size, 2, none⟩ = some (.slice sa es.length sc) := C6.cell 2; have r2 := C6.frozen 2; have H9 := Lib.hid (And.intro ro6 (And.intro st6 (And.intro lo6 (And.intro C6 gr6)))); clear ro6 st6 gr6 lo6 C6 hRo5 lit)
      go_roundw
      case rel =>
        obtain ⟨ro6, st6, lo6, C6, gr6⟩ := H9.out
        obtain ⟨hR, hres, hp, hbd2, hlv, hpar, hpl⟩ := H7.out
        obtain ⟨stA, hwz, blA⟩ := HS.out
        have hl1 : (es ++ [en]).length = es.length + 1 := by simp
        rw [hl1] at ro6 st6 lo6
        have hap := ns_own lo6 hR.apart hwz
        have hnode : Sv Sx (.slice ua (es.length + 1) uc) w.heap.size := .inl hR.node
        have hst := ((stA.trans st6).set (p := ⟨w.heap.size, 2, none⟩) hnode (.slice ua (es.length + 1) uc))
        refine ⟨c', nx, es ++ [en], .slice ua (es.length + 1) uc, _, rfl, rfl, ?_, ?_, ?_, hR.step.trans hst, fun q h => .inl (hR.incl q h), hnode, hap, hR.body.step hst, fun q hq => ?_, (blA.grown gr6 blA.size fun k hk => hR.vown k hk).setCell (p := ⟨w.heap.size, 2, none⟩) (Nat.le_refl _) _, fun q hq => ?_⟩
        · rcases r with _ | ⟨en', nx'⟩
          · exact .inr ⟨hres.1, .inr (.inr (.inr (.inl ⟨es, p, hlv ▸ hpar, hp, hlv ▸ H6.out⟩)))⟩
          · obtain ⟨rfl, rfl, rfl⟩ := hres
            exact .inl ⟨rfl, hbd2, hlv, .snoc hpar hp H6.out⟩
        · exact C6.set 2 _
        · exact ro6.keep (fun g hg => Below.heap_setCell _ _ _ _ (fun e => by subst e; exact hap hg)) ((Step.refl _ _).set (p := ⟨w.heap.size, 2, none⟩) hnode _) (fun _ h => h)
        · rcases hq with h | h
          · exact Nat.lt_of_lt_of_le (hR.lt q h) hst.size
          · have := ro6.own h
            simpa [World.setCell] using this
        · rcases lo6 with h | h
          · exact hR.vown q (h ▸ hq)
          · rw [h] at hq
            cases hq
            exact Nat.le_of_lt hwz
      case measure =>
        obtain ⟨hR, hres, hp, hbd2, hlv, hpar, hpl⟩ := H7.out
        rw [mOp_zero]
        rcases r with _ | ⟨en', nx'⟩
        · rw [mOp_ne _ _ hres.1]
          omega
        · obtain ⟨rfl, rfl, rfl⟩ := hres
          have := takenV_some H6.out
          rw [mOp_zero]
          omega
    · by_cases hc : c = 0
      · obtain ⟨_, hbd2, hlv, hpar⟩ := hR.sofar.resolve_right (fun h => h.1 hc)
        obtain ⟨hpl, hpm, hfew⟩ := hpar.len hbd2
        obtain rfl : p = (openV l).2.1.length := by
          have : ¬ p < (openV l).2.1.length := fun h => hgo ⟨hc, h⟩
          omega
        subst hc
        have e0 : wr.cell? ⟨w.heap.size, 0, none⟩ = some (.int .i64 0) := hR.cel.cell 0
        have e1 : wr.cell? ⟨w.heap.size, 1, none⟩ = some (.int .i64 (lvl : Nat)) := hR.cel.cell 1
        have e2 : wr.cell? ⟨w.heap.size, 2, none⟩ = some v := hR.cel.cell 2
        have e3 : wr.cell? ⟨w.heap.size, 3, none⟩ = some (.slice none 0 0) := hR.cel.cell 3
        have hS := H1.out.2.2.2.1
        have hrd : Rd kdEn wr (fun q => S q ∨ q = w.heap.size) v es := hR.ro.rd (fun q h => h.elim (hR.incl q) fun e => e ▸ hR.node) (fun q hq hs => by
          rcases hs with hs | hs
          · have := hR.vown q hq
            have := hS q hs
            omega
          · subst hs
            exact hR.apart hq)
        have M := may_any (p := 0) (N := N) (lvl := lvl) (tv := .slice none 0 0) wr hrd hN (by omega)
        obtain ⟨sa, sc, rfl, _⟩ := hR.ro.shape
        have H4 := Lib.hid (And.intro hR (And.intro hbd2 (And.intro hlv (And.intro hpar hrd))))
        clear hR hgo hbd2 hlv hpar hpl hpm hfew hrd hS
        go_wp2_with fail
        refine M.mono ?_
        rintro e w3 ⟨bb, rfl, hbb, hb3⟩
        clear M
        obtain ⟨hR, hbd2, hlv, hpar, hrd⟩ := H4.out
        have C3 := hR.cel.below hb3 hR.cel.lt
        have e0 : w3.cell? ⟨w.heap.size, 0, none⟩ = some (.int .i64 0) := C3.cell 0
        have e1 : w3.cell? ⟨w.heap.size, 1, none⟩ = some (.int .i64 (lvl : Nat)) := C3.cell 1
        have e2 : w3.cell? ⟨w.heap.size, 2, none⟩ = some (.slice sa es.length sc) := C3.cell 2
        have e3 : w3.cell? ⟨w.heap.size, 3, none⟩ = some (.slice none 0 0) := C3.cell 3
        have f0 := C3.frozen 0
        have f1 := C3.frozen 1
        have f2 := C3.frozen 2
        have f3 := C3.frozen 3
        have hbw := hR.bel.trans (hb3.mono hR.bel.size)
        have H5 := Lib.hid (And.intro C3 (And.intro hbw (And.intro hbb hb3)))
        clear hR hbd2 hlv hpar hrd C3 hbw hbb hb3
        rcases bb with _ | _
        · go_wp2
          obtain ⟨hR, hbd2, hlv, hpar, hrd⟩ := H4.out
          obtain ⟨C3, hbw, hbb, hb3⟩ := H5.out
          have hs : Says N l none := .inr (.inr (.inr (.inr ⟨es, hlv ▸ hpar, fun h => Bool.noConfusion (hbb.2 (hlv ▸ h))⟩)))
          have C5 := (((C3.set 0 (.int .i64 0)).set 1 (.int .i64 0)).set 2 (.slice none 0 0)).set 3 (.slice none 0 0)
          exact bodyPost_ret (results_cell2 (g := w.heap.size) rfl rfl C5 Tryz.underlying85 rfl (by kernel_rfl)) rfl ⟨_, none, rfl, hs, nv_zero _ S,
            (((hbw.setCell (p := ⟨w.heap.size, 0, none⟩) (Nat.le_refl _) _).setCell (p := ⟨w.heap.size, 1, none⟩) (Nat.le_refl _) _).setCell (p := ⟨w.heap.size, 2, none⟩) (Nat.le_refl _) _).setCell (p := ⟨w.heap.size, 3, none⟩) (Nat.le_refl _) _⟩
        · go_wp2
          obtain ⟨hR, hbd2, hlv, hpar, hrd⟩ := H4.out
          obtain ⟨C3, hbw, hbb, hb3⟩ := H5.out
          have hs : Says N l (some (lvl, es)) := ⟨H3.out.1, H3.out.2.1, hbd2, hlv, hpar, hbb.1 (by trivial)⟩
          have C5 := (((C3.set 0 (.int .i64 0)).set 1 (.int .i64 (lvl : Nat))).set 2 (.slice sa es.length sc)).set 3 (.slice none 0 0)
          have hst := ((((Step.of_below hb3 (fun q => S q ∨ q = w.heap.size)).set (p := ⟨w.heap.size, 0, none⟩) (.inr rfl) (.int .i64 0)).set (p := ⟨w.heap.size, 1, none⟩) (.inr rfl) (.int .i64 (lvl : Nat))).set (p := ⟨w.heap.size, 2, none⟩) (.inr rfl) (.slice sa es.length sc)).set (p := ⟨w.heap.size, 3, none⟩) (.inr rfl) (.slice none 0 0)
          exact bodyPost_ret (results_cell2 (g := w.heap.size) rfl rfl C5 Tryz.underlying85 rfl (by kernel_rfl)) rfl ⟨_, some (lvl, es), rfl, hs, Nv.of (n := ⟨0, lvl, es, []⟩) ((hrd.step hst).less fun q h => .inl h) (Bsf.nil _ _),
            (((hbw.setCell (p := ⟨w.heap.size, 0, none⟩) (Nat.le_refl _) _).setCell (p := ⟨w.heap.size, 1, none⟩) (Nat.le_refl _) _).setCell (p := ⟨w.heap.size, 2, none⟩) (Nat.le_refl _) _).setCell (p := ⟨w.heap.size, 3, none⟩) (Nat.le_refl _) _⟩
      · have hcb : (c == 0) = false := by rw [beq_eq_false_iff_ne]; exact hc
        obtain ⟨_, hs⟩ := hR.sofar.resolve_left (fun h => hc h.1)
        have e0 : wr.cell? ⟨w.heap.size, 0, none⟩ = some (.int .i64 0) := hR.cel.cell 0
        have e1 : wr.cell? ⟨w.heap.size, 1, none⟩ = some (.int .i64 (lvl : Nat)) := hR.cel.cell 1
        have e2 : wr.cell? ⟨w.heap.size, 2, none⟩ = some v := hR.cel.cell 2
        have e3 : wr.cell? ⟨w.heap.size, 3, none⟩ = some (.slice none 0 0) := hR.cel.cell 3
        have f0 := hR.cel.frozen 0
        have f1 := hR.cel.frozen 1
        have f2 := hR.cel.frozen 2
        have f3 := hR.cel.frozen 3
        have H4 := Lib.hid (And.intro hR hs)
        obtain ⟨sa, sc, rfl, _⟩ := hR.ro.shape
        clear hR hs hgo hc
        go_wp2
        obtain ⟨hR, hs⟩ := H4.out
        have C5 := (((hR.cel.set 0 (.int .i64 0)).set 1 (.int .i64 0)).set 2 (.slice none 0 0)).set 3 (.slice none 0 0)
        exact bodyPost_ret (results_cell2 (g := w.heap.size) rfl rfl C5 Tryz.underlying85 rfl (by kernel_rfl)) rfl ⟨_, none, rfl, hs, nv_zero _ S,
          (((hR.bel.setCell (p := ⟨w.heap.size, 0, none⟩) (Nat.le_refl _) _).setCell (p := ⟨w.heap.size, 1, none⟩) (Nat.le_refl _) _).setCell (p := ⟨w.heap.size, 2, none⟩) (Nat.le_refl _) _).setCell (p := ⟨w.heap.size, 3, none⟩) (Nat.le_refl _) _⟩

theorem opened_any {b : Value} {l : Bytes} {S : Nat → Prop} (N : Nat) (w : World) (hb : Bs w b l) (hS : ∀ q, S q → q < w.heap.size) (hN : N ≤ 4096) :
    Calls Tryz.prog 94 #[b, .int .i64 (N : Int)] w (Openeds w S N l) := by
  by_cases h0 : (openV l).2.2 = 0
  · by_cases h3 : (openV l).1 = 3
    · exact opened_main N w hb hS hN h0 h3
    · exact opened_not N w hb (.inr h3)
  · exact opened_not N w hb (.inl h0)
end Go.Proofs.YtgekeemhbnhelaaGreat
namespace Go.Proofs.YtgekeemhbnhelaaGreat
open Go.RowKit

/-- Such an entry as a node of a level has. -/
def EnOk (lvl : Nat) (e : En) : Prop := e.key.length ≤ 65535 ∧ e.val.length ≤ 65535 ∧ e.page ≤ 4294967295 ∧ (lvl = 0 → e.page = 0) ∧ (lvl ≠ 0 → e.val = [])

theorem drop_at {A C : Bytes} {p : Nat} (h : A.length = p) : (A ++ C).drop p = C := by
  subst h
  simp
theorem tb_at {A X C : Bytes} {p : Nat} (hp : A.length = p) (hx : X.length ≤ 65535) : tbOk (A ++ (beL X.length 2 ++ (X ++ C))) p ∧ tbN (A ++ (beL X.length 2 ++ (X ++ C))) p = X.length ∧ tbL (A ++ (beL X.length 2 ++ (X ++ C))) p = X := by
  have h1 : tbN (A ++ (beL X.length 2 ++ (X ++ C))) p = X.length := by
    unfold tbN
    rw [Int.toNat_natCast, drop_at hp, List.take_append_of_le_length (by rw [beL_length]; omega), beL_take_all, beNat_beL, Nat.mod_eq_of_lt (by omega)]
  have h2 : tbOk (A ++ (beL X.length 2 ++ (X ++ C))) p := by
    refine ⟨⟨rfl, by omega, ?_⟩, ?_⟩
    · simp only [List.length_append]
      omega
    · rw [h1]
      simp only [List.length_append, beL_length]
      omega
  refine ⟨h2, h1, ?_⟩
  unfold tbL
  rw [if_pos h2, h1, Int.toNat_natCast]
  have e : A ++ (beL X.length 2 ++ (X ++ C)) = (A ++ beL X.length 2) ++ (X ++ C) := by rw [List.append_assoc]
  rw [e, drop_at (by rw [List.length_append, beL_length, hp]), List.take_append_of_le_length (Nat.le_refl _), List.take_length]

theorem takenV_enc {lvl : Nat} {e : En} {A C : Bytes} {p : Nat} (hp : A.length = p) (h : EnOk lvl e) : takenV (A ++ (encE lvl e ++ C)) p lvl = some (e, (p : Int) + esize lvl e) := by
  obtain ⟨h1, h2, h3, h4, h5⟩ := h
  unfold takenV encE esize
  by_cases h0 : lvl = 0
  · rw [if_pos h0, if_pos h0, if_pos h0]
    have e1 : A ++ (beL e.key.length 2 ++ (e.key ++ (beL e.val.length 2 ++ e.val)) ++ C) = A ++ (beL e.key.length 2 ++ (e.key ++ (beL e.val.length 2 ++ (e.val ++ C)))) := by simp
    rw [e1]
    obtain ⟨k1, k2, k3⟩ := tb_at (C := beL e.val.length 2 ++ (e.val ++ C)) hp h1
    have e2 : A ++ (beL e.key.length 2 ++ (e.key ++ (beL e.val.length 2 ++ (e.val ++ C)))) = (A ++ beL e.key.length 2 ++ e.key) ++ (beL e.val.length 2 ++ (e.val ++ C)) := by simp
    obtain ⟨m1, m2, m3⟩ := tb_at (A := A ++ beL e.key.length 2 ++ e.key) (X := e.val) (C := C) (p := p + 2 + e.key.length) (by simp [beL_length, hp]; omega) h2
    rw [← e2] at m1 m2 m3
    rw [if_pos k1, k2, k3]
    have e3 : (p : Int) + 2 + (e.key.length : Nat) = ((p + 2 + e.key.length : Nat) : Int) := by omega
    rw [e3, if_pos m1, m2, m3]
    have e4 : (⟨e.key, e.val, 0⟩ : En) = e := by
      have := h4 h0
      rw [← this]
    rw [e4]
    congr 2
    omega
  · rw [if_neg h0, if_neg h0, if_neg h0]
    have e1 : A ++ (beL e.key.length 2 ++ (e.key ++ beL e.page 4) ++ C) = A ++ (beL e.key.length 2 ++ (e.key ++ (beL e.page 4 ++ C))) := by simp
    rw [e1]
    obtain ⟨k1, k2, k3⟩ := tb_at (C := beL e.page 4 ++ C) hp h1
    have e2 : A ++ (beL e.key.length 2 ++ (e.key ++ (beL e.page 4 ++ C))) = (A ++ beL e.key.length 2 ++ e.key) ++ (beL e.page 4 ++ C) := by simp
    rw [if_pos k1, k2, k3]
    have e3 : (p : Int) + 2 + (e.key.length : Nat) = ((p + 2 + e.key.length : Nat) : Int) := by omega
    have hl : (A ++ beL e.key.length 2 ++ e.key).length = p + 2 + e.key.length := by simp [beL_length, hp]; omega
    have m1 : takeMay (A ++ (beL e.key.length 2 ++ (e.key ++ (beL e.page 4 ++ C)))) ((p + 2 + e.key.length : Nat) : Int) 4 ∧ (4 : Int) ≤ ((A ++ (beL e.key.length 2 ++ (e.key ++ (beL e.page 4 ++ C)))).length : Nat) - ((p + 2 + e.key.length : Nat) : Int) := by
      refine ⟨⟨rfl, by omega, ?_⟩, ?_⟩ <;> (simp only [List.length_append, beL_length]; omega)
    rw [e3, if_pos m1]
    have m2 : takeN (A ++ (beL e.key.length 2 ++ (e.key ++ (beL e.page 4 ++ C)))) ((p + 2 + e.key.length : Nat) : Int) 4 = e.page := by
      unfold takeN
      rw [if_pos m1, e2, Int.toNat_natCast, drop_at hl]
      show beNat ((beL e.page 4 ++ C).take 4) = _
      rw [List.take_append_of_le_length (by rw [beL_length]; omega), beL_take_all, beNat_beL, Nat.mod_eq_of_lt (by omega)]
    rw [m2]
    have e4 : (⟨e.key, [], e.page⟩ : En) = e := by
      have := h5 h0
      rw [← this]
    rw [e4]
    congr 2
    omega

theorem takenV_body {lvl : Nat} {es : List En} (h : ∀ e ∈ es, EnOk lvl e) {k : Nat} {e : En} (hk : es[k]? = some e) : takenV (bodyL lvl es) ((2 + nsize lvl (es.take k) : Nat) : Int) lvl = some (e, ((2 + nsize lvl (es.take (k + 1)) : Nat) : Int)) := by
  have hkl := (List.getElem?_eq_some_iff.1 hk).1
  have e1 : bodyL lvl es = bodyL lvl (es.take k) ++ (encE lvl e ++ (es.drop (k + 1)).flatMap (encE lvl)) := by
    have : es = es.take k ++ (e :: es.drop (k + 1)) := by
      have h2 := (List.getElem?_eq_some_iff.1 hk).2
      rw [← h2, ← List.drop_eq_getElem_cons hkl, List.take_append_drop]
    conv => lhs; rw [this]
    unfold bodyL
    simp
  rw [e1, takenV_enc (bodyL_length lvl (es.take k)) (h e (List.mem_of_getElem? hk)), nsize_take_succ lvl es k e hk]
  congr 2
  omega

theorem pars_body {lvl : Nat} {es es' : List En} {p : Int} (h : ∀ e ∈ es, EnOk lvl e) (hp : Pars (bodyL lvl es) lvl es' p) : ∃ k, k ≤ es.length ∧ es' = es.take k ∧ p = ((2 + nsize lvl (es.take k) : Nat) : Int) := by
  induction hp with
  | nil => exact ⟨0, Nat.zero_le _, rfl, rfl⟩
  | snoc _ hlt ht ih =>
    obtain ⟨k, hk, rfl, rfl⟩ := ih
    rw [bodyL_length] at hlt
    have hkl : k < es.length := by
      rcases Nat.lt_or_ge k es.length with h1 | h1
      · exact h1
      · rw [List.take_of_length_le h1] at hlt
        omega
    obtain ⟨a, ha⟩ : ∃ a, es[k]? = some a := ⟨_, List.getElem?_eq_getElem hkl⟩
    rw [takenV_body h ha] at ht
    simp only [Option.some.injEq, Prod.mk.injEq] at ht
    obtain ⟨rfl, rfl⟩ := ht
    refine ⟨k + 1, hkl, ?_, rfl⟩
    rw [List.take_add_one, ha]
    rfl
theorem take_whole {lvl : Nat} {es : List En} {k : Nat} (h : nsize lvl (es.take k) = nsize lvl es) : es.take k = es := by
  have h1 := nsize_append lvl (es.take k) (es.drop k)
  rw [List.take_append_drop] at h1
  have h2 : es.drop k = [] := by
    rcases hd : es.drop k with _ | ⟨a, r⟩
    · rfl
    · have := nsize_pos lvl (l := es.drop k) (by rw [hd]; simp)
      omega
  have := List.take_append_drop k es
  rw [h2, List.append_nil] at this
  exact this

/-- What was sealed is what the block says. -/
theorem says_seal {N lvl : Nat} {es : List En} {r : Option (Nat × List En)} (hm : MayP N lvl es) (he : ∀ e ∈ es, EnOk lvl e) (hs : nsize lvl es ≤ 503) (hl : lvl ≤ 65535) (h : Says N (sealL 3 (bodyL lvl es)) r) : r = some (lvl, es) := by
  have ho : openV (sealL 3 (bodyL lvl es)) = (3, bodyL lvl es, 0) := open_seal (by decide) (by rw [bodyL_length]; omega)
  have hlv : beNat ((bodyL lvl es).take 2) = lvl := by
    unfold bodyL
    rw [List.take_append_of_le_length (by rw [beL_length]; omega), beL_take_all, beNat_beL, Nat.mod_eq_of_lt (by omega)]
  unfold Says at h
  rw [ho] at h
  simp only [hlv] at h
  rcases r with _ | ⟨lvl', es'⟩
  · exfalso
    rcases h with h | h | h | ⟨es', p, hp, hlt, ht⟩ | ⟨es', hp, hn⟩
    · exact h rfl
    · exact h rfl
    · rw [bodyL_length] at h; omega
    · obtain ⟨k, hk, rfl, rfl⟩ := pars_body he hp
      rw [bodyL_length] at hlt
      have hkl : k < es.length := by
        rcases Nat.lt_or_ge k es.length with h1 | h1
        · exact h1
        · rw [List.take_of_length_le h1] at hlt
          omega
      rw [takenV_body he (List.getElem?_eq_getElem hkl)] at ht
      cases ht
    · obtain ⟨k, hk, rfl, e⟩ := pars_body he hp
      rw [bodyL_length] at e
      rw [take_whole (lvl := lvl) (k := k) (by omega)] at hn
      exact hn hm
  · simp only at h
    obtain ⟨_, _, _, rfl, hp, _⟩ := h
    obtain ⟨k, hk, rfl, e⟩ := pars_body he hp
    rw [bodyL_length] at e
    rw [take_whole (lvl := lvl') (k := k) (by omega)]
end Go.Proofs.YtgekeemhbnhelaaGreat
