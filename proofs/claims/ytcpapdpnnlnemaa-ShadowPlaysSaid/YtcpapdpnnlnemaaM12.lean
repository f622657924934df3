/- What it means that the document's own device lies in memory: its block, the row of its blocks, the rows of what is loose; what its calls that turn the head alone answer; no condition. · Stands of the document's block; condition: its row of strings lies in memory. · Read of the document's device; condition: it lies in memory. -/
import Derived.Test.YtcpapdpnnlnemaaM06
namespace Go.Proofs.Ytcpapdpnnlnemaa
open Go.RowKit Go.Maps

/-- A string of these bytes. -/
abbrev str (l : Bytes) : Value := .string ⟨l.toArray⟩

/-- A row of strings of the device's own. -/
def RowS (w : World) (F : Nat → Prop) (v : Value) (ls : List Bytes) : Prop := w.ownsRow 0 9 1 v ls.length (ls.map str) ∧ ∀ g, v.ownBlock = some g → F g

theorem RowS.nil (w : World) (F : Nat → Prop) : RowS w F nilSl [] := ⟨World.ownsRow_nil _ _ _ _, fun g h => by cases h⟩
theorem RowS.typed {w : World} {F : Nat → Prop} {v : Value} {ls : List Bytes} (h : RowS w F v ls) : ∀ g, v.ownBlock = some g → ∃ cs, Cel w g cs 9 := by
  intro g hg
  obtain ⟨ho, _⟩ := h
  rcases ho.2 with ⟨rfl, _⟩ | ⟨g', cap, cur, rfl, _, hh, _⟩
  · cases hg
  · cases hg
    exact ⟨cur.toList, by simpa [Cel] using hh⟩
theorem RowS.kept {w w' : World} {F F' : Nat → Prop} {v : Value} {ls : List Bytes} (h : RowS w F v ls) (hv : ∀ g, v.ownBlock = some g → w'.heap[g]? = w.heap[g]?) (hf : ∀ g, F g → F' g) : RowS w' F' v ls := by
  obtain ⟨ho, hg⟩ := h
  refine ⟨⟨ho.1, ?_⟩, fun g e => hf g (hg g e)⟩
  rcases ho.2 with h' | ⟨g, cap, cur, rfl, hbg, hh, r⟩
  · exact .inl h'
  · exact .inr ⟨g, cap, cur, rfl, hbg, (hv g rfl).trans hh, r⟩
theorem RowS.shape {w : World} {F : Nat → Prop} {v : Value} {ls : List Bytes} (h : RowS w F v ls) : ∃ a cap, v = .slice a ls.length cap := by
  obtain ⟨ho, _⟩ := h
  rcases ho.2 with ⟨rfl, h0⟩ | ⟨g, cap, cur, rfl, _⟩
  · exact ⟨none, 0, by rw [h0]⟩
  · exact ⟨_, cap, rfl⟩
theorem RowS.len {w : World} {F : Nat → Prop} {v : Value} {ls : List Bytes} (h : RowS w F v ls) : ls.length ≤ 9223372036854775807 := by
  obtain ⟨ho, _⟩ := h
  rcases ho.2 with ⟨rfl, h0⟩ | ⟨g, cap, cur, rfl, _, _, h1, h2, _⟩
  · omega
  · unfold maxLen at h2; omega
theorem RowS.some {w : World} {F : Nat → Prop} {v : Value} {ls : List Bytes} (h : RowS w F v ls) (hn : 0 < ls.length) :
    ∃ g cap, v = .slice (some ⟨g, 0, none⟩) ls.length cap ∧ ∀ (i : Nat) (l : Bytes), ls[i]? = some l → w.cell? ⟨g, i, none⟩ = some (str l) := by
  obtain ⟨ho, hg⟩ := h
  rcases ho.2 with ⟨rfl, h0⟩ | ⟨g, cap, cur, rfl, hbg, hh, r⟩
  · omega
  · refine ⟨g, cap, rfl, fun i l hi => ?_⟩
    have hlt := (List.getElem?_eq_some_iff.1 hi).1
    rw [ho.cellAt i (by omega)]
    simp [hi]

/-- The document's device lies in memory: its block is r, its blocks stand in the row g as the cells cur, what is loose in the rows lv. -/
structure RefAt (w : World) (r g cap : Nat) (cur : List Value) (lv : Nat → Value) (D : Dv) (F : Nat → Prop) : Prop where
  head : Cel w r [.slice (some ⟨g, 0, none⟩) D.bk.length cap, .int .i64 D.left, .bool D.on] 63
  row : Cel w g cur 66
  cells : ∀ (k : Nat) (x : Bk), D.bk[k]? = some x → cur[k * 2]? = some (str x.sure) ∧ cur[k * 2 + 1]? = some (lv k)
  loose : ∀ (k : Nat) (x : Bk), D.bk[k]? = some x → RowS w F (lv k) x.loose
  apart : ∀ j k, j < D.bk.length → k < D.bk.length → j ≠ k → (lv j).ownBlock = none ∨ (lv j).ownBlock ≠ (lv k).ownBlock
  room : D.bk.length ≤ cap
  fr : F r
  fg : F g
  fl : ∀ q, F q → q < w.heap.size
  pos : 0 < D.bk.length
  few : D.bk.length ≤ 4096
  low : -1 ≤ D.left
  high : D.left ≤ 9223372036854775807

/-- The document's device of this content lies in memory behind the pointer to block r, within the footprint. -/
def Ref (w : World) (r : Nat) (D : Dv) (F : Nat → Prop) : Prop := ∃ g cap cur lv, RefAt w r g cap cur lv D F

section
variable {w w' : World} {r g cap : Nat} {cur : List Value} {lv : Nat → Value} {D : Dv} {F F' : Nat → Prop}

theorem RefAt.kept (h : RefAt w r g cap cur lv D F) (hk : ∀ q, F q → w'.heap[q]? = w.heap[q]?) (hs : w.heap.size ≤ w'.heap.size) : RefAt w' r g cap cur lv D F where
  head := h.head.kept (hk r h.fr)
  row := h.row.kept (hk g h.fg)
  cells := h.cells
  loose k x hx := by
    have hr := h.loose k x hx
    exact hr.kept (fun q hq => hk q (hr.2 q hq)) fun _ h => h
  apart := h.apart
  room := h.room
  fr := h.fr
  fg := h.fg
  fl q hq := Nat.lt_of_lt_of_le (h.fl q hq) hs
  pos := h.pos
  few := h.few
  low := h.low
  high := h.high
theorem Ref.kept (h : Ref w r D F) (hk : ∀ q, F q → w'.heap[q]? = w.heap[q]?) (hs : w.heap.size ≤ w'.heap.size) : Ref w' r D F := by
  obtain ⟨g, cap, cur, lv, h⟩ := h
  exact ⟨g, cap, cur, lv, h.kept hk hs⟩
theorem Ref.fl (h : Ref w r D F) : ∀ q, F q → q < w.heap.size := by obtain ⟨g, cap, cur, lv, h⟩ := h; exact h.fl
theorem Ref.fr (h : Ref w r D F) : F r := by obtain ⟨g, cap, cur, lv, h⟩ := h; exact h.fr
theorem Ref.other {S : Nat → Prop} (h : Ref w r D F) (ho : Only S w w') (hd : ∀ q, F q → ¬ S q) : Ref w' r D F := h.kept (fun q hq => ho.block q (h.fl q hq) (hd q hq)) ho.size
theorem Ref.below (h : Ref w r D F) (hb : Below w.heap.size w w') : Ref w' r D F := h.kept (fun q hq => hb.block q (h.fl q hq)) hb.size
theorem Ref.widen (h : Ref w r D F) (hf : ∀ q, F q → F' q) (hs : ∀ q, F' q → q < w.heap.size) : Ref w r D F' := by
  obtain ⟨g, cap, cur, lv, h⟩ := h
  exact ⟨g, cap, cur, lv, {
    head := h.head, row := h.row, cells := h.cells
    loose := fun k x hx => (h.loose k x hx).kept (fun _ _ => rfl) hf
    apart := h.apart, room := h.room, fr := hf _ h.fr, fg := hf _ h.fg, fl := hs
    pos := h.pos, few := h.few, low := h.low, high := h.high }⟩

/-- The head's cells. -/
theorem RefAt.top (h : RefAt w r g cap cur lv D F) :
    w.cell? ⟨r, 0, none⟩ = some (.slice (some ⟨g, 0, none⟩) D.bk.length cap) ∧ w.cell? ⟨r, 1, none⟩ = some (.int .i64 D.left) ∧ w.cell? ⟨r, 2, none⟩ = some (.bool D.on) ∧
    w.frozen? ⟨r, 0, none⟩ = false ∧ w.frozen? ⟨r, 1, none⟩ = false ∧ w.frozen? ⟨r, 2, none⟩ = false := by
  refine ⟨?_, ?_, ?_, h.head.frozen 0, h.head.frozen 1, h.head.frozen 2⟩ <;> rw [h.head.cell] <;> rfl
theorem RefAt.at (h : RefAt w r g cap cur lv D F) {k : Nat} {x : Bk} (hx : D.bk[k]? = some x) : w.cell? ⟨g, k * 2, none⟩ = some (str x.sure) ∧ w.cell? ⟨g, k * 2 + 1, none⟩ = some (lv k) ∧
    w.frozen? ⟨g, k * 2, none⟩ = false ∧ w.frozen? ⟨g, k * 2 + 1, none⟩ = false := by
  obtain ⟨c1, c2⟩ := h.cells k x hx
  exact ⟨by rw [h.row.cell, c1], by rw [h.row.cell, c2], h.row.frozen _, h.row.frozen _⟩
theorem RefAt.r_not (h : RefAt w r g cap cur lv D F) {q : Nat} {cs : List Value} {t : TypeId} (hc : Cel w q cs t) (ht : t ≠ 63) : q ≠ r := fun e => by
  subst e
  exact ht (hc.inj h.head).2
theorem RefAt.g_not (h : RefAt w r g cap cur lv D F) {q : Nat} {cs : List Value} {t : TypeId} (hc : Cel w q cs t) (ht : t ≠ 66) : q ≠ g := fun e => by
  subst e
  exact ht (hc.inj h.row).2

/-- The head alone is turned. -/
theorem RefAt.rehead (h : RefAt w r g cap cur lv D F) {on : Bool} {left : Int} (hh : Cel w' r [.slice (some ⟨g, 0, none⟩) D.bk.length cap, .int .i64 left, .bool on] 63)
    (ho : Only (· = r) w w') (h1 : -1 ≤ left) (h2 : left ≤ 9223372036854775807) : RefAt w' r g cap cur lv ⟨D.bk, on, left⟩ F := by
  have hk : ∀ q, q < w.heap.size → q ≠ r → w'.heap[q]? = w.heap[q]? := fun q hq hne => ho.block q hq hne
  exact {
    head := hh
    row := h.row.kept (hk g (h.fl _ h.fg) (h.r_not h.row (by decide)))
    cells := h.cells
    loose := fun k x hx => by
      have hr := h.loose k x hx
      exact hr.kept (fun q hq => by
        obtain ⟨cs, hc⟩ := hr.typed q hq
        exact hk q hc.lt (h.r_not hc (by decide))) fun _ h => h
    apart := h.apart
    room := h.room
    fr := h.fr
    fg := h.fg
    fl := fun q hq => Nat.lt_of_lt_of_le (h.fl q hq) ho.size
    pos := h.pos
    few := h.few
    low := h1
    high := h2 }
end

section
variable {w : World} {r : Nat} {D : Dv} {F : Nat → Prop}

theorem rhas_yes (h : Ref w r D F) (k : Nat) (hk : k < D.bk.length) : Calls Try.prog 40 #[ptr r, .int .i64 (k : Int)] w fun e w' => e = .returned (.bool true) ∧ w = w' := by
  obtain ⟨g, cap, cur, lv, h⟩ := h
  have c0 := h.top.1
  have hf := h.few
  have ht : ((k : Int) < (D.bk.length : Int)) := by omega
  clear h
  go_enter Try.func40, Try.ntmps40
  go_wp2
  go_ret
  exact ⟨rfl, rfl⟩

theorem rhas_no (h : Ref w r D F) (k : Int) (hk : k < 0 ∨ (D.bk.length : Int) ≤ k) : Calls Try.prog 40 #[ptr r, .int .i64 k] w fun e w' => e = .returned (.bool false) ∧ w = w' := by
  obtain ⟨g, cap, cur, lv, h⟩ := h
  have c0 := h.top.1
  have hf := h.few
  by_cases h0 : k < 0
  · have ht : decide (0 ≤ k) = false := by simp; omega
    clear h hk
    go_enter Try.func40, Try.ntmps40
    go_wp2
    go_ret
    exact ⟨rfl, rfl⟩
  · have h1 : 0 ≤ k := by omega
    have ht : decide (k < (D.bk.length : Int)) = false := by simp; omega
    clear h hk h0
    go_enter Try.func40, Try.ntmps40
    go_wp2
    go_ret
    exact ⟨rfl, rfl⟩

theorem ref_cell2 (h : Ref w r D F) (on : Bool) : Ref (w.setCell ⟨r, 2, none⟩ (.bool on)) r ⟨D.bk, on, D.left⟩ F ∧ Only (· = r) w (w.setCell ⟨r, 2, none⟩ (.bool on)) := by
  obtain ⟨g, cap, cur, lv, h⟩ := h
  have ho : Only (· = r) w (w.setCell ⟨r, 2, none⟩ (.bool on)) := (Only.refl (· = r) w).setCell (p := ⟨r, 2, none⟩) (.inl rfl) _
  exact ⟨⟨g, cap, cur, lv, h.rehead (on := on) (left := D.left) (h.head.set 2 (.bool on)) ho h.low h.high⟩, ho⟩

theorem ref_cell1 (h : Ref w r D F) (left : Int) (h1 : -1 ≤ left) (h2 : left ≤ 9223372036854775807) : Ref (w.setCell ⟨r, 1, none⟩ (.int .i64 left)) r ⟨D.bk, D.on, left⟩ F ∧ Only (· = r) w (w.setCell ⟨r, 1, none⟩ (.int .i64 left)) := by
  obtain ⟨g, cap, cur, lv, h⟩ := h
  have ho : Only (· = r) w (w.setCell ⟨r, 1, none⟩ (.int .i64 left)) := (Only.refl (· = r) w).setCell (p := ⟨r, 1, none⟩) (.inl rfl) _
  exact ⟨⟨g, cap, cur, lv, h.rehead (on := D.on) (left := left) (h.head.set 1 (.int .i64 left)) ho h1 h2⟩, ho⟩

theorem goes_dies (h : Ref w r D F) (hl : D.left = 0) : Calls Try.prog 41 #[ptr r] w fun e w' => e = .returned (.bool true) ∧ Ref w' r ⟨D.bk, false, D.left⟩ F ∧ Only (· = r) w w' := by
  have hh := ref_cell2 h false
  obtain ⟨g, cap, cur, lv, h⟩ := h
  obtain ⟨_, c1, c2, _, f1, f2⟩ := h.top
  rw [hl] at c1
  have HH := Lib.hid hh
  clear h hl hh
  go_enter Try.func41, Try.ntmps41
  go_wp2
  go_ret
  exact ⟨rfl, HH.out⟩

theorem goes_on (h : Ref w r D F) (hl : D.left ≠ 0) : Calls Try.prog 41 #[ptr r] w fun e w' => e = .returned (.bool false) ∧ Ref w' r ⟨D.bk, D.on, spent D.left⟩ F ∧ Only (· = r) w w' := by
  have h0 := h
  obtain ⟨g, cap, cur, lv, h⟩ := h
  obtain ⟨_, c1, c2, _, f1, f2⟩ := h.top
  have hlow := h.low
  have hhigh := h.high
  rcases Int.lt_or_gt_of_ne hl with hlt | hgt
  · have he : (D.left == 0) = false := by simpa using hl
    rw [spent_neg hlt]
    have hs : Ref w r ⟨D.bk, D.on, D.left⟩ F ∧ Only (· = r) w w := ⟨h0, Only.refl _ _⟩
    have HH := Lib.hid hs
    have hd : decide (0 < D.left) = false := by simp; omega
    clear h h0 hl hs
    generalize D.left = left at *
    go_enter Try.func41, Try.ntmps41
    go_wp2
    go_ret
    exact ⟨rfl, HH.out⟩
  · have he : (D.left == 0) = false := by simpa using hl
    have hs := ref_cell1 h0 (D.left - 1) (by omega) (by omega)
    rw [spent_pos hgt]
    have HH := Lib.hid hs
    clear h h0 hl hs
    generalize D.left = left at *
    go_enter Try.func41, Try.ntmps41
    go_wp2
    go_ret
    exact ⟨rfl, HH.out⟩

theorem roff_off (h : Ref w r D F) (ho : D.on = false) : Calls Try.prog 16 #[ptr r] w fun e w' => e = .returned (err 8) ∧ w = w' := by
  obtain ⟨g, cap, cur, lv, h⟩ := h
  obtain ⟨_, c1, c2, _, f1, f2⟩ := h.top
  rw [ho] at c2
  clear h ho
  go_enter Try.func16, Try.ntmps16
  go_wp2
  go_ret
  exact ⟨rfl, rfl⟩
theorem roff_on (h : Ref w r D F) (ho : D.on = true) : Calls Try.prog 16 #[ptr r] w fun e w' => e = .returned (err 0) ∧ Ref w' r ⟨D.bk, false, D.left⟩ F ∧ Only (· = r) w w' := by
  have hh := ref_cell2 h false
  obtain ⟨g, cap, cur, lv, h⟩ := h
  obtain ⟨_, c1, c2, _, f1, f2⟩ := h.top
  rw [ho] at c2
  have HH := Lib.hid hh
  clear h ho hh
  go_enter Try.func16, Try.ntmps16
  go_wp2
  go_ret
  exact ⟨rfl, HH.out⟩
theorem rarm_off (h : Ref w r D F) (ho : D.on = false) (n : Int) : Calls Try.prog 14 #[ptr r, .int .i64 n] w fun e w' => e = .returned (err 8) ∧ w = w' := by
  obtain ⟨g, cap, cur, lv, h⟩ := h
  obtain ⟨_, c1, c2, _, f1, f2⟩ := h.top
  rw [ho] at c2
  clear h ho
  go_enter Try.func14, Try.ntmps14
  go_wp2
  go_ret
  exact ⟨rfl, rfl⟩
theorem rarm_on (h : Ref w r D F) (ho : D.on = true) (n : Int) (hn : n ≤ 9223372036854775807) :
    Calls Try.prog 14 #[ptr r, .int .i64 n] w fun e w' => e = .returned (err 0) ∧ Ref w' r ⟨D.bk, D.on, max n (-1)⟩ F ∧ Only (· = r) w w' := by
  have hh := ref_cell1 h (max n (-1)) (by omega) (by omega)
  obtain ⟨g, cap, cur, lv, h⟩ := h
  obtain ⟨_, c1, c2, _, f1, f2⟩ := h.top
  rw [ho] at c2 hh ⊢
  clear h ho
  by_cases hm : -1 ≤ n
  · rw [Int.max_eq_left hm] at hh ⊢
    have HH := Lib.hid hh
    clear hh
    go_enter Try.func14, Try.ntmps14
    go_wp2
    go_ret
    exact ⟨rfl, HH.out⟩
  · rw [Int.max_eq_right (by omega)] at hh ⊢
    have HH := Lib.hid hh
    clear hh
    go_enter Try.func14, Try.ntmps14
    go_wp2
    go_ret
    exact ⟨rfl, HH.out⟩

theorem stands_slice {l : List Bytes} {s : Bytes} {n : Nat} (h : l.length = n + 1) : l[n]? = some ((⟨s, l⟩ : Bk).stands) := Bk.stands_some (b := ⟨s, l⟩) h
end
end Go.Proofs.Ytcpapdpnnlnemaa
namespace Go.Proofs.Ytcpapdpnnlnemaa
open Go.RowKit Go.Maps

set_option maxRecDepth 100000 in
theorem rstands_any {w : World} {F : Nat → Prop} {v : Value} {s : Bytes} {ls : List Bytes} (h : RowS w F v ls) :
    Calls Try.prog 45 #[.agg #[str s, v]] w fun e w' => e = .returned (str (Bk.stands ⟨s, ls⟩)) ∧ Below w.heap.size w w' := by
  obtain ⟨a, cap, rfl⟩ := h.shape
  have hbel : ∀ o, Below w.heap.size w (w.alloc o) := fun o => (Below.refl _ _).alloc (Nat.le_refl _) o
  cases hl : ls with
  | nil =>
    have e : Bk.stands ⟨s, []⟩ = s := rfl
    rw [e]
    subst hl
    have HB := Lib.hid hbel
    clear hbel e h
    generalize hs : str s = S
    clear hs
    go_enter Try.func45, Try.ntmps45
    go_wp2
    go_ret
    exact ⟨rfl, HB.out _⟩
  | cons y t =>
    have hpos : ls.length = t.length + 1 := by rw [hl]; rfl
    have hst := stands_slice (s := s) hpos
    rw [hl] at hst
    have hmax := h.len
    obtain ⟨g, cap', hv, hc⟩ := h.some (by omega)
    rw [hl] at hc
    have hcell := hc _ _ hst
    rw [hpos] at hmax hv
    rw [List.length_cons]
    rw [hv]
    have hlt := World.block_lt_of_cell? w _ hcell
    have HB := Lib.hid hbel
    generalize Bk.stands ⟨s, y :: t⟩ = S at *
    generalize t.length = m at *
    generalize hs : str s = S0
    generalize hs1 : str S = S1 at *
    clear hbel hst hc hpos hl hs hv h hs1
    have hcell2 : ∀ o, (w.alloc o).cell? ⟨g, m, none⟩ = some S1 := fun o => by
      have := (Below.refl w.heap.size w).alloc (Nat.le_refl _) o
      exact (World.cell?_of_block (this.block g hlt)).trans hcell
    go_enter Try.func45, Try.ntmps45
    go_wp2
    go_ret
    exact ⟨rfl, HB.out _⟩
end Go.Proofs.Ytcpapdpnnlnemaa
namespace Go.Proofs.Ytcpapdpnnlnemaa
open Go.RowKit Go.Maps

theorem cell_of {w : World} {g : Nat} {C : Array Value} {t : TypeId} {fr : Nat × Nat} (hh : w.heap[g]? = some (.cells C t fr)) (i : Nat) : w.cell? ⟨g, i, none⟩ = C[i]? := by simp [World.cell?, hh]

theorem bs_of_string (w : World) (l : Bytes) (C : Nat) (t : TypeId) (fr : Nat × Nat) (h1 : l.length ≤ C) (h2 : C ≤ maxLen) : Bs (w.alloc (.cells (bytesRow ⟨l.toArray⟩ C) t fr)) (.slice (some ⟨w.heap.size, 0, none⟩) l.length C) l := by
  refine ⟨some ⟨w.heap.size, 0, none⟩, C, rfl, h1, h2, (fun h => by cases h), fun ad had i u hu => ?_⟩
  cases had
  rw [Addr.add_lit, Nat.zero_add]
  have hi : i < l.length := by
    have := (List.getElem?_eq_some_iff.1 hu).1
    simpa [bvs] using this
  have hb := bytesRow_at ⟨l.toArray⟩ C i (by simpa using hi)
  have : (w.alloc (.cells (bytesRow ⟨l.toArray⟩ C) t fr)).cell? ⟨w.heap.size, i, none⟩ = (bytesRow ⟨l.toArray⟩ C)[i]? := by
    have hh : (w.alloc (.cells (bytesRow ⟨l.toArray⟩ C) t fr)).heap[w.heap.size]? = some (.cells (bytesRow ⟨l.toArray⟩ C) t fr) := by
      show (w.heap.push _)[w.heap.size]? = _
      simp
    exact cell_of hh i
  rw [this, hb]
  rw [bvs_cell hi] at hu
  rw [← hu]
  simp [bv]

/-- These bytes are answered, with no error. -/
def Tells (w : World) (l : Bytes) (e : Ending) (w' : World) : Prop := ∃ g n c, e = .returned (.tuple #[.slice (some ⟨g, 0, none⟩) n c, err 0]) ∧ Bs w' (.slice (some ⟨g, 0, none⟩) n c) l ∧ w.heap.size ≤ g ∧ Below w.heap.size w w'

section
variable {w : World} {r : Nat} {D : Dv} {F : Nat → Prop}

end
end Go.Proofs.Ytcpapdpnnlnemaa
