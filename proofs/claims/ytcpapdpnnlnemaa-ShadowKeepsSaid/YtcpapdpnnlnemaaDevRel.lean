/- What it means that a device lies in memory: its block, the row of what is sure, the map of what is loose; and what stays of it; no condition. -/
import Derived.Test.YtcpapdpnnlnemaaDevMake
import Derived.Maps.OwnSet
import Derived.Maps.AppendAt
namespace Go.Proofs.Ytcpapdpnnlnemaa
open Go.RowKit Go.Maps

/-- The nil slice. -/
abbrev nilSl : Value := .slice none 0 0
/-- A key, as it reads. -/
abbrev keyL (k : Nat) : Lit := .int .i64 (k : Int)
/-- How a value of the map reads: as itself. -/
def rawR (v : Value) : Option (DataW Value × List MemPlace) := some (.held v, [])

/-- A block of 512 bytes whose own block is of the footprint. -/
def BlkF (w : World) (F : Nat → Prop) (v : Value) (l : Bytes) : Prop := ∃ g, v = .slice (some ⟨g, 0, none⟩) 512 512 ∧ Cel w g (bvs l) 5 ∧ l.length = 512 ∧ F g

theorem BlkF.blk {w : World} {F : Nat → Prop} {v : Value} {l : Bytes} (h : BlkF w F v l) : Blk w v l := let ⟨g, h1, h2, h3, _⟩ := h; ⟨g, h1, h2, h3⟩
theorem BlkF.kept {w w' : World} {F F' : Nat → Prop} {v : Value} {l : Bytes} (h : BlkF w F v l) (hk : ∀ g, F g → (∃ cs, Cel w g cs 5) → w'.heap[g]? = w.heap[g]?) (hf : ∀ g, F g → F' g) : BlkF w' F' v l := by
  obtain ⟨g, rfl, hc, hl, hg⟩ := h
  exact ⟨g, rfl, hc.kept (hk g hg ⟨_, hc⟩), hl, hf g hg⟩

/-- A row of blocks of 512 bytes of the device's own. -/
def RowF (w : World) (F : Nat → Prop) (v : Value) (ls : List Bytes) : Prop :=
  ∃ vals, w.ownsRow 0 33 1 v ls.length vals ∧ (∀ (i : Nat) (l : Bytes), ls[i]? = some l → ∃ u, vals[i]? = some u ∧ BlkF w F u l) ∧ ∀ g, v.ownBlock = some g → F g

theorem RowF.nil (w : World) (F : Nat → Prop) : RowF w F nilSl [] := ⟨[], World.ownsRow_nil _ _ _ _, (fun i l h => by simp at h), fun g h => by cases h⟩

theorem RowF.typed {w : World} {F : Nat → Prop} {v : Value} {ls : List Bytes} (h : RowF w F v ls) : ∀ g, v.ownBlock = some g → ∃ cs, Cel w g cs 33 := by
  intro g hg
  obtain ⟨vals, ho, _, _⟩ := h
  rcases ho.2 with ⟨rfl, _⟩ | ⟨g', cap, cur, rfl, _, hh, _⟩
  · cases hg
  · cases hg
    exact ⟨cur.toList, by simpa [Cel] using hh⟩

theorem RowF.kept {w w' : World} {F F' : Nat → Prop} {v : Value} {ls : List Bytes} (h : RowF w F v ls) (hk : ∀ g, F g → (∃ cs, Cel w g cs 5) → w'.heap[g]? = w.heap[g]?)
    (hv : ∀ g, v.ownBlock = some g → w'.heap[g]? = w.heap[g]?) (hf : ∀ g, F g → F' g) : RowF w' F' v ls := by
  obtain ⟨vals, ho, hb, hg⟩ := h
  refine ⟨vals, ⟨ho.1, ?_⟩, fun i l hi => ?_, fun g e => hf g (hg g e)⟩
  · rcases ho.2 with h' | ⟨g, cap, cur, rfl, hbg, hh, r⟩
    · exact .inl h'
    · exact .inr ⟨g, cap, cur, rfl, hbg, (hv g rfl).trans hh, r⟩
  · obtain ⟨u, hu, hx⟩ := hb i l hi
    exact ⟨u, hu, hx.kept hk hf⟩

theorem RowF.shape {w : World} {F : Nat → Prop} {v : Value} {ls : List Bytes} (h : RowF w F v ls) : ∃ a cap, v = .slice a ls.length cap := by
  obtain ⟨vals, ho, _, _⟩ := h
  rcases ho.2 with ⟨rfl, h0⟩ | ⟨g, cap, cur, rfl, _⟩
  · exact ⟨none, 0, by rw [h0]⟩
  · exact ⟨_, cap, rfl⟩

theorem RowF.len {w : World} {F : Nat → Prop} {v : Value} {ls : List Bytes} (h : RowF w F v ls) : ls.length ≤ 9223372036854775807 := by
  obtain ⟨vals, ho, _, _⟩ := h
  rcases ho.2 with ⟨rfl, h0⟩ | ⟨g, cap, cur, rfl, _, _, h1, h2, _⟩
  · omega
  · unfold maxLen at h2; omega

theorem RowF.some {w : World} {F : Nat → Prop} {v : Value} {ls : List Bytes} (h : RowF w F v ls) (hn : 0 < ls.length) :
    ∃ g cap, v = .slice (some ⟨g, 0, none⟩) ls.length cap ∧ ∀ (i : Nat) (l : Bytes), ls[i]? = some l → ∃ u, w.cell? ⟨g, i, none⟩ = some u ∧ BlkF w F u l := by
  obtain ⟨vals, ho, hb, hg⟩ := h
  rcases ho.2 with ⟨rfl, h0⟩ | ⟨g, cap, cur, rfl, hbg, hh, r⟩
  · omega
  · refine ⟨g, cap, rfl, fun i l hi => ?_⟩
    obtain ⟨u, hu, hx⟩ := hb i l hi
    have hlt := (List.getElem?_eq_some_iff.1 hi).1
    refine ⟨u, ?_, hx⟩
    rw [ho.cellAt i (by omega)]
    exact hu

/-- A device lies in memory: its block is b, what is sure stands in the row sb as the values sv, what is loose in the map mb as the values lv. -/
structure DevAt (w : World) (b sb mb : Nat) (sv : List Value) (lv : Nat → Value) (Dm : DataW Value) (D : Dv) (F : Nat → Prop) : Prop where
  head : Cel w b [.slice (some ⟨sb, 0, none⟩) D.bk.length D.bk.length, .map (some mb), .bool D.on, .int .i64 D.left] 60
  rows : Cel w sb sv 33
  svl : sv.length = D.bk.length
  sure : ∀ (k : Nat) (x : Bk), D.bk[k]? = some x → ∃ u, sv[k]? = some u ∧ (u = nilSl ∧ x.sure = noughts ∨ BlkF w F u x.sure)
  map : w.ownsMap Try.prog 3 rawR mb 4096 Dm
  keys : ∀ (k : Nat) (x : Bk), D.bk[k]? = some x → Maps.has Dm (keyL k) = !x.loose.isEmpty ∧ Dm.atKey (keyL k) (.held nilSl) = .held (lv k)
  only : ∀ kl, Maps.has Dm kl = true → ∃ k, k < D.bk.length ∧ kl = keyL k
  loose : ∀ (k : Nat) (x : Bk), D.bk[k]? = some x → RowF w F (lv k) x.loose
  apart : ∀ j k, j < D.bk.length → k < D.bk.length → j ≠ k → (lv j).ownBlock = none ∨ (lv j).ownBlock ≠ (lv k).ownBlock
  off : ∀ k, k < D.bk.length → (lv k).ownBlock ≠ some sb
  fb : F b
  fs : F sb
  fm : F mb
  fl : ∀ g, F g → g < w.heap.size
  pos : 0 < D.bk.length
  few : D.bk.length ≤ 4096
  low : -1 ≤ D.left
  high : D.left ≤ 9223372036854775807

/-- A device of this content lies in memory behind the pointer to block b, within the footprint. -/
def Dev (w : World) (b : Nat) (D : Dv) (F : Nat → Prop) : Prop := ∃ sb mb sv lv Dm, DevAt w b sb mb sv lv Dm D F

section
variable {w w' : World} {b sb mb : Nat} {sv : List Value} {lv : Nat → Value} {Dm : DataW Value} {D : Dv} {F F' : Nat → Prop}

theorem ownsMap_kept' {R : Value → Option (DataW Value × List MemPlace)} {n : Nat} (h : w.ownsMap Try.prog 3 R mb n Dm) (hk : w'.heap[mb]? = w.heap[mb]?) : w'.ownsMap Try.prog 3 R mb n Dm := by
  obtain ⟨es, clock, hb, r⟩ := h
  exact ⟨es, clock, hk.trans hb, r⟩

/-- What leaves the footprint's blocks alone leaves the device. -/
theorem DevAt.kept (h : DevAt w b sb mb sv lv Dm D F) (hk : ∀ g, F g → w'.heap[g]? = w.heap[g]?) (hs : w.heap.size ≤ w'.heap.size) : DevAt w' b sb mb sv lv Dm D F where
  head := h.head.kept (hk b h.fb)
  rows := h.rows.kept (hk sb h.fs)
  svl := h.svl
  sure k x hx := by
    obtain ⟨u, hu, hx'⟩ := h.sure k x hx
    exact ⟨u, hu, hx'.imp id fun hb => hb.kept (fun g hg _ => hk g hg) fun _ h => h⟩
  map := ownsMap_kept' h.map (hk mb h.fm)
  keys := h.keys
  only := h.only
  loose k x hx := by
    have hr := h.loose k x hx
    exact hr.kept (fun g hg _ => hk g hg) (fun g hg => by obtain ⟨_, _, _, hf⟩ := hr; exact hk g (hf g hg)) fun _ h => h
  apart := h.apart
  off := h.off
  fb := h.fb
  fs := h.fs
  fm := h.fm
  fl g hg := Nat.lt_of_lt_of_le (h.fl g hg) hs
  pos := h.pos
  few := h.few
  low := h.low
  high := h.high

theorem Dev.kept (h : Dev w b D F) (hk : ∀ g, F g → w'.heap[g]? = w.heap[g]?) (hs : w.heap.size ≤ w'.heap.size) : Dev w' b D F := by
  obtain ⟨sb, mb, sv, lv, Dm, h⟩ := h
  exact ⟨sb, mb, sv, lv, Dm, h.kept hk hs⟩
theorem BlkF.widen {v : Value} {l : Bytes} (h : BlkF w F v l) (hf : ∀ g, F g → F' g) : BlkF w F' v l := h.kept (fun _ _ _ => rfl) hf
theorem Dev.widen (h : Dev w b D F) (hf : ∀ g, F g → F' g) (hs : ∀ g, F' g → g < w.heap.size) : Dev w b D F' := by
  obtain ⟨sb, mb, sv, lv, Dm, h⟩ := h
  exact ⟨sb, mb, sv, lv, Dm, {
    head := h.head, rows := h.rows, svl := h.svl
    sure := fun k x hx => by
      obtain ⟨u, hu, hx'⟩ := h.sure k x hx
      exact ⟨u, hu, hx'.imp id fun hb => hb.widen hf⟩
    map := h.map, keys := h.keys, only := h.only
    loose := fun k x hx => (h.loose k x hx).kept (fun _ _ _ => rfl) (fun _ _ => rfl) hf
    apart := h.apart, off := h.off, fb := hf _ h.fb, fs := hf _ h.fs, fm := hf _ h.fm, fl := hs
    pos := h.pos, few := h.few, low := h.low, high := h.high }⟩
theorem Dev.fl (h : Dev w b D F) : ∀ g, F g → g < w.heap.size := by obtain ⟨sb, mb, sv, lv, Dm, h⟩ := h; exact h.fl
/-- A step that turns another footprint's blocks leaves the device. -/
theorem Dev.other {S : Nat → Prop} (h : Dev w b D F) (ho : Only S w w') (hd : ∀ g, F g → ¬ S g) : Dev w' b D F := h.kept (fun g hg => ho.block g (h.fl g hg) (hd g hg)) ho.size
theorem Dev.below (h : Dev w b D F) (hb : Below w.heap.size w w') : Dev w' b D F := h.kept (fun g hg => hb.block g (h.fl g hg)) hb.size

/-- The head's four cells. -/
theorem DevAt.cells (h : DevAt w b sb mb sv lv Dm D F) :
    w.cell? ⟨b, 0, none⟩ = some (.slice (some ⟨sb, 0, none⟩) D.bk.length D.bk.length) ∧ w.cell? ⟨b, 1, none⟩ = some (.map (some mb)) ∧ w.cell? ⟨b, 2, none⟩ = some (.bool D.on) ∧ w.cell? ⟨b, 3, none⟩ = some (.int .i64 D.left) ∧
    w.frozen? ⟨b, 1, none⟩ = false ∧ w.frozen? ⟨b, 2, none⟩ = false ∧ w.frozen? ⟨b, 3, none⟩ = false := by
  refine ⟨?_, ?_, ?_, ?_, h.head.frozen 1, h.head.frozen 2, h.head.frozen 3⟩ <;> rw [h.head.cell] <;> rfl

/-- Blocks of one footprint that bear different types, or are a map, differ. -/
theorem DevAt.b_ne (h : DevAt w b sb mb sv lv Dm D F) : b ≠ sb ∧ b ≠ mb ∧ sb ≠ mb := by
  obtain ⟨es, clock, hm, _⟩ := h.map
  refine ⟨fun e => ?_, fun e => ?_, fun e => ?_⟩
  · subst e
    have := (h.head.inj h.rows).2
    cases this
  · subst e
    rw [show w.heap[b]? = _ from h.head] at hm
    cases hm
  · subst e
    rw [show w.heap[sb]? = _ from h.rows] at hm
    cases hm
theorem DevAt.b_not (h : DevAt w b sb mb sv lv Dm D F) {g : Nat} {cs : List Value} {t : TypeId} (hc : Cel w g cs t) (ht : t ≠ 60) : g ≠ b := fun e => by
  subst e
  exact ht (hc.inj h.head).2

/-- The head alone is turned. -/
theorem DevAt.rehead (h : DevAt w b sb mb sv lv Dm D F) {on : Bool} {left : Int} (hh : Cel w' b [.slice (some ⟨sb, 0, none⟩) D.bk.length D.bk.length, .map (some mb), .bool on, .int .i64 left] 60)
    (ho : Only (· = b) w w') (h1 : -1 ≤ left) (h2 : left ≤ 9223372036854775807) : DevAt w' b sb mb sv lv Dm ⟨D.bk, on, left⟩ F := by
  have hk : ∀ g, g < w.heap.size → g ≠ b → w'.heap[g]? = w.heap[g]? := fun g hg hne => ho.block g hg hne
  have hbyte : ∀ g, F g → (∃ cs, Cel w g cs 5) → w'.heap[g]? = w.heap[g]? := fun g hg ⟨cs, hc⟩ => hk g (h.fl g hg) (h.b_not hc (by decide))
  exact {
    head := hh
    rows := h.rows.kept (hk sb (h.fl _ h.fs) (h.b_ne.1.symm))
    svl := h.svl
    sure := fun k x hx => by
      obtain ⟨u, hu, hx'⟩ := h.sure k x hx
      exact ⟨u, hu, hx'.imp id fun hb => hb.kept hbyte fun _ h => h⟩
    map := ownsMap_kept' h.map (hk mb (h.fl _ h.fm) (h.b_ne.2.1.symm))
    keys := h.keys
    only := h.only
    loose := fun k x hx => by
      have hr := h.loose k x hx
      exact hr.kept hbyte (fun g hg => by
        obtain ⟨cs, hc⟩ := hr.typed g hg
        exact hk g hc.lt (h.b_not hc (by decide))) fun _ h => h
    apart := h.apart
    off := h.off
    fb := h.fb
    fs := h.fs
    fm := h.fm
    fl := fun g hg => Nat.lt_of_lt_of_le (h.fl g hg) ho.size
    pos := h.pos
    few := h.few
    low := h1
    high := h2 }

theorem int_look (k : Nat) (hk : k < 9223372036854775808) : keyOf Try.prog 3 (.int .i64 (k : Int)) = some (keyL k) :=
  keyOf_int_mk Try.underlying3 (by
    have h1 : IntKind.i64.min = -9223372036854775808 := by decide
    have h2 : IntKind.i64.max = 9223372036854775807 := by decide
    simp only [Lit.wf, h1, h2, Bool.and_eq_true, decide_eq_true_eq]
    omega)

theorem look_own (h : w.ownsMap Try.prog 3 rawR mb 4096 Dm) {k : Nat} (hk : k < 9223372036854775808) {v : Value} (hv : Dm.atKey (keyL k) (.held nilSl) = .held v) : (Instr.lookup 58 (.map (some mb)) (.int .i64 (k : Int)) false).run Try.prog w = .ok v w := by
  obtain ⟨v', ps, hrun, hv'⟩ := h.lookup (t := 58) (e := 57) (int_keyed Try.underlying3) Try.underlying58 (z := nilSl) (by kernel_rfl) (zd := .held nilSl) (zp := []) rfl (int_look k hk)
  rw [hv] at hv'
  simp only [rawR, Option.some.injEq, Prod.mk.injEq, DataW.held.injEq] at hv'
  rw [← hv'.1]
  exact hrun

/-- The look-up of what is loose. -/
theorem DevAt.look (h : DevAt w b sb mb sv lv Dm D F) {k : Nat} {x : Bk} (hx : D.bk[k]? = some x) : (Instr.lookup 58 (.map (some mb)) (.int .i64 (k : Int)) false).run Try.prog w = .ok (lv k) w :=
  look_own h.map (by have := (List.getElem?_eq_some_iff.1 hx).1; have := h.few; omega) (h.keys k x hx).2

theorem DevAt.lv_nil (h : DevAt w b sb mb sv lv Dm D F) {k : Nat} {x : Bk} (hx : D.bk[k]? = some x) (hl : x.loose = []) : lv k = nilSl := by
  obtain ⟨h1, h2⟩ := h.keys k x hx
  rw [hl] at h1
  rw [atKey_of_not_has (by simpa using h1)] at h2
  exact (DataW.held.inj h2).symm

theorem BlkF.open {v : Value} {l : Bytes} (h : BlkF w F v l) : ∃ g, v = .slice (some ⟨g, 0, none⟩) 512 512 ∧ Bs w (.slice (some ⟨g, 0, none⟩) 512 512) l ∧ l.length = 512 := by
  have hb := h.blk.bs
  obtain ⟨g, rfl, _, hl, _⟩ := h
  exact ⟨g, rfl, hb, hl⟩
end
end Go.Proofs.Ytcpapdpnnlnemaa
