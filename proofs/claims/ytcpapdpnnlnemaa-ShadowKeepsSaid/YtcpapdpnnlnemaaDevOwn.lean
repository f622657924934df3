/- A device that a statement has made for itself: what its calls answer, and that nothing older is turned; conditions: fewer than 2^32 things are loose in each block. -/
import Derived.Test.YtcpapdpnnlnemaaDevOn
import Derived.Test.YtcpapdpnnlnemaaDevWrite
import Derived.Test.YtcpapdpnnlnemaaDevNew
namespace Go.Proofs.Ytcpapdpnnlnemaa
open Go.RowKit Go.Maps

/-- A device of this content, in memory that was laid since w0. -/
def Mine (w0 w : World) (b : Nat) (D : Dv) : Prop := ∃ F, Dev w b D F ∧ (∀ q, F q → w0.heap.size ≤ q) ∧ Below w0.heap.size w0 w
/-- .. and beside it a slice of bytes that lies elsewhere. -/
def MineB (w0 w : World) (b : Nat) (D : Dv) (v : Value) (l : Bytes) : Prop := ∃ F, Dev w b D F ∧ (∀ q, F q → w0.heap.size ≤ q) ∧ Below w0.heap.size w0 w ∧ Bs w v l ∧ ∀ q, v.ownBlock = some q → ¬ F q
/-- .. and beside it a slice of numbers that lies elsewhere. -/
def MineI (w0 w : World) (b : Nat) (D : Dv) (v : Value) (l : List Int) : Prop := ∃ F, Dev w b D F ∧ (∀ q, F q → w0.heap.size ≤ q) ∧ Below w0.heap.size w0 w ∧ Iv w v l ∧ (l ≠ [] → ∀ q, v.ownBlock = some q → ¬ F q)

/-- Fewer than 2^32 things are loose in each block. -/
def Small (D : Dv) : Prop := ∀ (k : Nat) (x : Bk), D.bk[k]? = some x → x.loose.length < 4294967296

section
variable {w0 w : World} {b : Nat} {D : Dv} {v : Value} {l : Bytes}

theorem MineB.mine (h : MineB w0 w b D v l) : Mine w0 w b D := let ⟨F, h1, h2, h3, _⟩ := h; ⟨F, h1, h2, h3⟩
theorem Mine.under (h : Mine w0 w b D) : Below w0.heap.size w0 w := let ⟨_, _, _, h3⟩ := h; h3
theorem Mine.later {w' : World} (h : Mine w0 w b D) (hb : Below w.heap.size w w') : Mine w0 w' b D := by
  obtain ⟨F, h1, h2, h3⟩ := h
  exact ⟨F, h1.below hb, h2, h3.trans (hb.mono h3.size)⟩
theorem MineB.later {w' : World} (h : MineB w0 w b D v l) (hb : Below w.heap.size w w') : MineB w0 w' b D v l := by
  obtain ⟨F, h1, h2, h3, h4, h5⟩ := h
  exact ⟨F, h1.below hb, h2, h3.trans (hb.mono h3.size), h4.below hb, h5⟩
theorem Mine.len (h : Mine w0 w b D) : 0 < D.bk.length ∧ D.bk.length ≤ 4096 := by
  obtain ⟨F, ⟨sb, mb, sv, lv, Dm, h1⟩, _⟩ := h
  exact ⟨h1.pos, h1.few⟩

/-- What was made behind it lies elsewhere. -/
theorem Mine.with {w' : World} (h : Mine w0 w b D) {g : Nat} (hb : Below w.heap.size w w') (hc : Cel w' g (bvs l) 5) (hl : l.length = 512) (hg : w.heap.size ≤ g) : MineB w0 w' b D (.slice (some ⟨g, 0, none⟩) 512 512) l := by
  obtain ⟨F, h1, h2, h3⟩ := h
  refine ⟨F, h1.below hb, h2, h3.trans (hb.mono h3.size), Blk.bs ⟨g, rfl, hc, hl⟩, fun q e hq => ?_⟩
  have e' : g = q := Option.some.inj e
  subst e'
  have := h1.fl _ hq
  omega

/-- What was there ahead of it lies elsewhere. -/
theorem Mine.old (h : Mine w0 w b D) {l : List Int} (hv : Iv w0 v l) : MineI w0 w b D v l := by
  obtain ⟨F, h1, h2, h3⟩ := h
  refine ⟨F, h1, h2, h3, hv.kept fun q _ _ hq => h3.block q hq, fun hl q e hf => ?_⟩
  obtain ⟨u, hu⟩ : ∃ u, l[0]? = some u := ⟨_, List.getElem?_eq_getElem (List.length_pos_iff.2 hl)⟩
  obtain ⟨g, o, cap, rfl, hc, _⟩ := hv.open hu
  have e' : g = q := Option.some.inj e
  subst e'
  have := h2 g hf
  have := World.block_lt_of_cell? w0 _ hc
  simp only at this
  omega
theorem Mine.oldB (h : Mine w0 w b D) (hv : Bs w0 v l) (hq : ∀ q, v.ownBlock = some q → q < w0.heap.size) : MineB w0 w b D v l := by
  obtain ⟨F, h1, h2, h3⟩ := h
  exact ⟨F, h1, h2, h3, hv.below h3, fun q e hf => by have := h2 q hf; have := hq q e; omega⟩
theorem Mine.noI (h : Mine w0 w b D) : MineI w0 w b D nilSl [] := by
  obtain ⟨F, h1, h2, h3⟩ := h
  exact ⟨F, h1, h2, h3, Iv.nil _, fun hl => absurd rfl hl⟩

/-- A literal slice of numbers, laid behind it. -/
theorem Mine.lit (h : Mine w0 w b D) (l : List Int) (hl : l.length ≤ 1000) (hr : ∀ u ∈ l, -9223372036854775808 ≤ u ∧ u ≤ 9223372036854775807) {n : Nat} (hn : n = l.length) {cs : Array Value} (hcs : cs = (l.map (Value.int .i64)).toArray) :
    MineI w0 (w.alloc (.cells cs 3)) b D (.slice (some ⟨w.heap.size, 0, none⟩) n n) l := by
  subst hn
  subst hcs
  have hb : Below w.heap.size w (w.alloc (.cells (l.map (Value.int .i64)).toArray 3)) := (Below.refl _ _).alloc (Nat.le_refl _) _
  obtain ⟨F, h1, h2, h3⟩ := h
  refine ⟨F, h1.below hb, h2, h3.trans (hb.mono h3.size), ⟨some ⟨w.heap.size, 0, none⟩, _, rfl, by omega, (fun e => by cases e), fun ad had i u hu => ?_, hr⟩, fun _ q e hf => ?_⟩
  · cases had
    rw [Addr.add_lit, Nat.zero_add, (Cel.new w _ _).cell]
    simp [hu]
  · have e' : w.heap.size = q := Option.some.inj e
    subst e'
    have := h1.fl _ hf
    omega

theorem m_new (n : Nat) (w : World) (h1 : 1 ≤ n) (h2 : n ≤ 4096) : Calls Try.prog 9 #[.int .i64 (n : Int)] w fun e w' => ∃ b, e = .returned (.tuple #[ptr b, err 0]) ∧ Mine w w' b (fresh n) := by
  refine (new_ok n w h1 h2).mono ?_
  rintro e w' ⟨b, rfl, hd, hb⟩
  exact ⟨b, rfl, _, hd, fun q hq => hq.1, hb⟩

theorem m_write (h : MineB w0 w b D v l) (hl : l.length = 512) (ho : D.on = true) (hz : D.left ≠ 0) {k : Nat} (hk : k < D.bk.length) (hs : Small D) :
    Calls Try.prog 19 #[ptr b, .int .i64 (k : Int), v] w fun e w' => e = .returned (err 0) ∧ Mine w0 w' b ⟨wrote D.bk k l, D.on, spent D.left⟩ := by
  obtain ⟨F, h1, h2, h3, h4, h5⟩ := h
  obtain ⟨x, hx⟩ : ∃ x, D.bk[k]? = some x := ⟨_, List.getElem?_eq_getElem hk⟩
  refine (write_ok h1 ho hz hx (hs k x hx) h4 hl h5).mono ?_
  rintro e w' ⟨rfl, hd, hon⟩
  have hz1 := h3.size
  exact ⟨rfl, _, hd, fun q hq => hq.elim (h2 q) (fun hq => by omega), h3.trans (hon.below hz1 h2)⟩

theorem only_b {w' : World} {F : Nat → Prop} {D' : Dv} (h : Dev w b D F) (h2 : ∀ q, F q → w0.heap.size ≤ q) (h3 : Below w0.heap.size w0 w) (hd : Dev w' b D' F) (ho : Only (· = b) w w') : Mine w0 w' b D' := by
  obtain ⟨sb, mb, sv, lv, Dm, hh⟩ := h
  exact ⟨F, hd, h2, h3.trans (ho.below h3.size fun q e => e ▸ h2 b hh.fb)⟩

theorem m_write_dies (h : MineB w0 w b D v l) (hl : l.length = 512) (ho : D.on = true) (hz : D.left = 0) {k : Nat} (hk : k < D.bk.length) :
    Calls Try.prog 19 #[ptr b, .int .i64 (k : Int), v] w fun e w' => e = .returned (err 8) ∧ Mine w0 w' b ⟨D.bk, false, D.left⟩ := by
  obtain ⟨F, h1, h2, h3, h4, h5⟩ := h
  refine (write_dies h1 ho hz k hk h4 hl).mono ?_
  rintro e w' ⟨rfl, hd, hon⟩
  exact ⟨rfl, only_b h1 h2 h3 hd hon⟩

theorem m_write_off (h : Mine w0 w b D) (ho : D.on = false) (k : Int) (v : Value) : Calls Try.prog 19 #[ptr b, .int .i64 k, v] w fun e w' => e = .returned (err 8) ∧ w = w' := by
  obtain ⟨F, h1, h2, h3⟩ := h
  exact write_off h1 ho k v

theorem m_write_no (h : Mine w0 w b D) (ho : D.on = true) (k : Int) (hk : k < 0 ∨ (D.bk.length : Int) ≤ k) (v : Value) : Calls Try.prog 19 #[ptr b, .int .i64 k, v] w fun e w' => e = .returned (err 1) ∧ w = w' := by
  obtain ⟨F, h1, h2, h3⟩ := h
  exact write_no h1 ho k hk v

theorem m_flush (h : Mine w0 w b D) (ho : D.on = true) (hz : D.left ≠ 0) (hs : Small D) : Calls Try.prog 30 #[ptr b] w fun e w' => e = .returned (err 0) ∧ Mine w0 w' b ⟨flushed D.bk, D.on, spent D.left⟩ := by
  obtain ⟨F, h1, h2, h3⟩ := h
  refine (flush_ok h1 ho hz hs).mono ?_
  rintro e w' ⟨rfl, hd, hon⟩
  have hz1 := h3.size
  exact ⟨rfl, _, hd, fun q hq => hq.elim (h2 q) (fun hq => by omega), h3.trans (hon.below hz1 h2)⟩

theorem m_flush_dies (h : Mine w0 w b D) (ho : D.on = true) (hz : D.left = 0) : Calls Try.prog 30 #[ptr b] w fun e w' => e = .returned (err 8) ∧ Mine w0 w' b ⟨D.bk, false, D.left⟩ := by
  obtain ⟨F, h1, h2, h3⟩ := h
  refine (flush_dies h1 ho hz).mono ?_
  rintro e w' ⟨rfl, hd, hon⟩
  exact ⟨rfl, only_b h1 h2 h3 hd hon⟩

theorem m_flush_off (h : Mine w0 w b D) (ho : D.on = false) : Calls Try.prog 30 #[ptr b] w fun e w' => e = .returned (err 8) ∧ w = w' := by
  obtain ⟨F, h1, h2, h3⟩ := h
  exact flush_off h1 ho

theorem m_off (h : Mine w0 w b D) (ho : D.on = true) : Calls Try.prog 15 #[ptr b] w fun e w' => e = .returned (err 0) ∧ Mine w0 w' b ⟨D.bk, false, D.left⟩ := by
  obtain ⟨F, h1, h2, h3⟩ := h
  refine (off_on h1 ho).mono ?_
  rintro e w' ⟨rfl, hd, hon⟩
  exact ⟨rfl, only_b h1 h2 h3 hd hon⟩

theorem m_arm (h : Mine w0 w b D) (ho : D.on = true) (n : Int) (hn : n ≤ 9223372036854775807) : Calls Try.prog 13 #[ptr b, .int .i64 n] w fun e w' => e = .returned (err 0) ∧ Mine w0 w' b ⟨D.bk, D.on, max n (-1)⟩ := by
  obtain ⟨F, h1, h2, h3⟩ := h
  refine (arm_on h1 ho n hn).mono ?_
  rintro e w' ⟨rfl, hd, hon⟩
  exact ⟨rfl, only_b h1 h2 h3 hd hon⟩

theorem m_on {l : List Int} (h : MineI w0 w b D v l) (ho : D.on = false) (hs : Small D) : Calls Try.prog 17 #[ptr b, v] w fun e w' => e = .returned (err 0) ∧ Mine w0 w' b ⟨comes D.bk l, true, -1⟩ := by
  obtain ⟨F, h1, h2, h3, h4, h5⟩ := h
  refine (on_ok h1 ho hs h4 h5).mono ?_
  rintro e w' ⟨rfl, hd, hon⟩
  have hz1 := h3.size
  exact ⟨rfl, _, hd, fun q hq => hq.elim (h2 q) (fun hq => by omega), h3.trans (hon.below hz1 h2)⟩

theorem m_size (h : Mine w0 w b D) : Calls Try.prog 26 #[ptr b] w fun e w' => e = .returned (.int .i64 (D.bk.length : Nat)) ∧ w = w' := by
  obtain ⟨F, h1, _⟩ := h
  exact size_any h1
theorem m_read_off (h : Mine w0 w b D) (ho : D.on = false) (k : Int) : Calls Try.prog 24 #[ptr b, .int .i64 k] w fun e w' => e = .returned (.tuple #[nilSl, err 8]) ∧ w = w' := by
  obtain ⟨F, h1, _⟩ := h
  exact read_off h1 ho k
theorem m_read (h : Mine w0 w b D) (ho : D.on = true) {k : Nat} {x : Bk} (hx : D.bk[k]? = some x) : Calls Try.prog 24 #[ptr b, .int .i64 (k : Int)] w (Reads w x.stands) := by
  obtain ⟨F, h1, _⟩ := h
  exact read_ok h1 ho hx

theorem str_ne {l m : Bytes} (h : l ≠ m) : (l == m) = false := by
  rw [beq_eq_false_iff_ne]
  exact h

/-- What stands in a block is 512 bytes. -/
theorem stands_len {F : Nat → Prop} (h : Dev w b D F) {k : Nat} {x : Bk} (hx : D.bk[k]? = some x) : x.stands.length = 512 := by
  obtain ⟨sb, mb, sv, lv, Dm, h⟩ := h
  rcases hl : x.loose.length with _ | n
  · rw [Bk.stands_nil (List.eq_nil_of_length_eq_zero hl)]
    obtain ⟨u, _, ⟨_, e⟩ | hb⟩ := h.sure k x hx
    · rw [e]; exact List.length_replicate
    · exact hb.blk.len
  · have h1 := Bk.stands_some hl
    obtain ⟨vals, _, hv, _⟩ := h.loose k x hx
    obtain ⟨u, _, hb⟩ := hv n _ h1
    exact hb.blk.len

end
end Go.Proofs.Ytcpapdpnnlnemaa
