/- What settles in a device: each block that has something loose is picked one thing, or none, rising, and nothing is loose any more; condition: the picks lie within what is loose. · Flush and On of a device: what stands is sure, or what is picked; conditions: a device lies in memory, or the pointer is nil; fewer than 2^32 things are loose in each block; the picks lie elsewhere. · On of a device: what is kept of what was loose; conditions: a device lies in memory, or the pointer is nil; fewer than 2^32 things are loose in each block; the picks lie elsewhere. · New of a device: a device of noughts that is on, in new memory, or why not; no condition. · A device that a statement has made for itself: what its calls answer, and that nothing older is turned; conditions: fewer than 2^32 things are loose in each block. · Each call of a device: one answer and one device behind it, whatever stands; conditions: it lies in memory; fewer than 2^32 things are loose in each block. -/
import Derived.Test.YtgekeemhbnhelaaGreatM12
import Derived.Carry
import Derived.IntWalk
import Derived.Test.YtgekeemhbnhelaaGreatM11
namespace Go.Proofs.YtgekeemhbnhelaaGreat
open Go.RowKit Go.Maps Go.Sort Go.Shelf
attribute [local go_sem] Oper.semAt_some

/-- How many of the blocks ahead of number k have something loose. -/
def cnt (l : List Bk) (k : Nat) : Nat := (l.take k).countP fun b => !b.loose.isEmpty

/-- The blocks behind a settling: by the picks, told in order. -/
def settled : List Bk → List Nat → List Bk
  | [], _ => []
  | b :: r, ps => if b.loose = [] then ⟨b.sure, []⟩ :: settled r ps else ⟨b.picked (ps.headD 0), []⟩ :: settled r ps.tail

/-- What a value of the row of what is sure may be. -/
def SureOk (w : World) (F : Nat → Prop) (u : Value) (s : Bytes) : Prop := u = nilSl ∧ s = noughts ∨ BlkF w F u s

/-- What is sure behind i rounds. -/
def target (bk : List Bk) (pk : Nat → Nat → Nat) (i k : Nat) (x : Bk) : Bytes :=
  if x.loose ≠ [] ∧ cnt bk k < i then x.picked (pk (cnt bk k) x.loose.length) else x.sure

/-- What holds between two rounds. -/
structure SJ (w : World) (F PS : Nat → Prop) (b sb : Nat) (bk : List Bk) (pk : Nat → Nat → Nat) (PJ : Nat → World → Prop) (pv : Value) (rc : Loop) (i : Nat) (W : World) : Prop where
  only : Only (fun q => q = sb ∨ PS q) w W
  row : ∃ svi, Cel W sb svi 23 ∧ svi.length = bk.length ∧ ∀ (k : Nat) (x : Bk), bk[k]? = some x → ∃ u, svi[k]? = some u ∧ SureOk w F u (target bk pk i k x)
  pj : PJ i W
  b0 : Cel W w.heap.size [ptr b] 32
  b1 : Cel W (w.heap.size + 1) [pv] 103
  dd : W.heap[w.heap.size + 2]? = some (.deferred (some []))
  ll : W.heap[w.heap.size + 3]? = some (.loop rc)

theorem SJ.below {w W W' : World} {F PS : Nat → Prop} {b sb : Nat} {bk : List Bk} {pk : Nat → Nat → Nat} {PJ : Nat → World → Prop} {pv : Value} {rc : Loop} {i B : Nat} (h : SJ w F PS b sb bk pk PJ pv rc i W)
    (hPJ : ∀ i W W', PJ i W → (∀ q, q < w.heap.size → q ≠ sb → W'.heap[q]? = W.heap[q]?) → PJ i W') (hs : sb < w.heap.size) (hb : RowKit.Below B W W') (hB : w.heap.size + 4 ≤ B) : SJ w F PS b sb bk pk PJ pv rc i W' where
  only := ⟨hb.os.trans h.only.os, hb.tape.trans h.only.tape, hb.output.trans h.only.output, Nat.le_trans h.only.size hb.size, fun q hq hn => (hb.block q (by omega)).trans (h.only.block q hq hn)⟩
  row := by
    obtain ⟨svi, hc, r⟩ := h.row
    exact ⟨svi, hc.kept (hb.block _ (by omega)), r⟩
  pj := hPJ i W W' h.pj fun q hq _ => hb.block q (by omega)
  b0 := h.b0.kept (hb.block _ (by omega))
  b1 := h.b1.kept (hb.block _ (by omega))
  dd := (hb.block _ (by omega)).trans h.dd
  ll := (hb.block _ (by omega)).trans h.ll

/-- The record is turned. -/
theorem SJ.turn {w W : World} {F PS : Nat → Prop} {b sb : Nat} {bk : List Bk} {pk : Nat → Nat → Nat} {PJ : Nat → World → Prop} {pv : Value} {rc : Loop} {i : Nat} (h : SJ w F PS b sb bk pk PJ pv rc i W)
    (hPJ : ∀ i W W', PJ i W → (∀ q, q < w.heap.size → q ≠ sb → W'.heap[q]? = W.heap[q]?) → PJ i W') (hs : sb < w.heap.size) (rc' : Loop) : SJ w F PS b sb bk pk PJ pv rc' i (W.putObj (w.heap.size + 3) (.loop rc')) := by
  have hk : ∀ q, q ≠ w.heap.size + 3 → (W.putObj (w.heap.size + 3) (.loop rc')).heap[q]? = W.heap[q]? := fun q hq => World.putObj_heap_other hq
  have hlt := (Array.getElem?_eq_some_iff.1 h.ll).1
  have hg := grownBy_putObj' W (w.heap.size + 3) (.loop rc')
  exact {
    only := h.only.grown hg (fun q e => by cases e; exact .inr (by omega))
    row := by
      obtain ⟨svi, hc, r⟩ := h.row
      exact ⟨svi, hc.kept (hk _ (by omega)), r⟩
    pj := hPJ i W _ h.pj fun q hq _ => hk q (by omega)
    b0 := h.b0.kept (hk _ (by omega))
    b1 := h.b1.kept (hk _ (by omega))
    dd := (hk _ (by omega)).trans h.dd
    ll := World.putObj_heap_same hlt }

end Go.Proofs.YtgekeemhbnhelaaGreat
namespace Go.Proofs.YtgekeemhbnhelaaGreat
open Go.RowKit Go.Maps

/-- How many things are loose, of each block that has some. -/
def lens : List Bk → List Nat
  | [] => []
  | b :: r => if b.loose = [] then lens r else b.loose.length :: lens r

/-- The picks, told one by one. -/
def pickAt (ps : List Int) (i m : Nat) : Nat := pickN ((ps[i]?).getD 0) m

/-- The picks as a list of numbers, one for each block that has something loose. -/
def picksOf (l : List Bk) (ps : List Int) : List Nat := (List.range l.length).map fun k => pickAt ps k ((lens l)[k]?.getD 0)

section
variable {w : World} {b : Nat} {D : Dv} {F : Nat → Prop}

end
end Go.Proofs.YtgekeemhbnhelaaGreat
namespace Go.Proofs.YtgekeemhbnhelaaGreat
open Go.RowKit Go.Maps

/-- The value is a slice that reads as these numbers. -/
def Iv (w : World) (v : Value) (l : List Int) : Prop :=
  ∃ a cap, v = .slice a l.length cap ∧ l.length ≤ 9223372036854775807 ∧ (a = none → l = []) ∧ (∀ ad, a = some ad → ∀ (i : Nat) (u : Int), l[i]? = some u → w.cell? (ad.add i) = some (.int .i64 u)) ∧ ∀ u ∈ l, -9223372036854775808 ≤ u ∧ u ≤ 9223372036854775807

theorem Iv.nil (w : World) : Iv w nilSl [] := ⟨none, 0, rfl, by simp, fun _ => rfl, (fun _ h => by cases h), (fun u h => by cases h)⟩
theorem Iv.shape {w : World} {v : Value} {l : List Int} (h : Iv w v l) : ∃ a cap, v = .slice a l.length cap := let ⟨a, cap, e, _⟩ := h; ⟨a, cap, e⟩
theorem Iv.kept {w w' : World} {v : Value} {l : List Int} (h : Iv w v l) (hk : ∀ q, v.ownBlock = some q → l ≠ [] → q < w.heap.size → w'.heap[q]? = w.heap[q]?) : Iv w' v l := by
  obtain ⟨a, cap, rfl, h1, h2, h3, h4⟩ := h
  refine ⟨a, cap, rfl, h1, h2, fun ad had i u hu => ?_, h4⟩
  subst had
  have hc := h3 _ rfl i u hu
  have hblk : (ad.add i).block = ad.block := by
    unfold Addr.add
    split <;> rfl
  have hlt := World.block_lt_of_cell? w _ hc
  exact (World.cell?_of_block (w := w) (a := ad.add i) (by rw [hblk] at hlt ⊢; exact hk _ rfl (fun e => by rw [e] at hu; simp at hu) hlt)).trans hc
theorem Iv.open {w : World} {v : Value} {l : List Int} (h : Iv w v l) {i : Nat} {u : Int} (hu : l[i]? = some u) : ∃ g o cap, v = .slice (some ⟨g, o, none⟩) l.length cap ∧ w.cell? ⟨g, o + i, none⟩ = some (.int .i64 u) ∧ -9223372036854775808 ≤ u ∧ u ≤ 9223372036854775807 := by
  obtain ⟨a, cap, rfl, h1, h2, h3, h4⟩ := h
  rcases a with _ | ⟨g, o, s⟩
  · rw [h2 rfl] at hu
    simp at hu
  · have hc := h3 _ rfl i u hu
    have hlt := (List.getElem?_eq_some_iff.1 hu).1
    have hs : s = none := by simpa [Addr.add] using World.cell?_spot (h3 _ rfl 0 l[0] (List.getElem?_eq_getElem (by omega)))
    subst hs
    rw [Addr.add_lit] at hc
    exact ⟨g, o, cap, rfl, hc, h4 u (List.mem_of_getElem? hu)⟩

/-- What the closure of On finds behind i rounds. -/
def OnJ (nb pb : Nat) (v : Value) (l : List Int) (i : Nat) (w : World) : Prop :=
  Cel w nb [.int .i64 ((min i l.length : Nat) : Int)] 3 ∧ Cel w pb [v] 61 ∧ Iv w v l

section
variable {w : World} {b : Nat} {D : Dv} {F : Nat → Prop}

end
end Go.Proofs.YtgekeemhbnhelaaGreat
namespace Go.Proofs.YtgekeemhbnhelaaGreat
open Go.RowKit Go.Maps

theorem row_info0 : (Tryz.prog.info? 23).map (fun i => (i.zero, i.size, i.bytes)) = some (some nilSl, 1, 24) := by kernel_rfl

theorem new_no (n : Int) (w : World) (hn : n < 1 ∨ 4096 < n) : Calls Tryz.prog 38 #[.int .i64 n] w fun e w' => e = .returned (.tuple #[.pointer none, err 1]) ∧ w = w' := by
  by_cases h0 : n < 1
  · clear hn
    go_enter Tryz.func38, Tryz.ntmps38
    go_wp2
    go_ret2
    exact ⟨rfl, rfl⟩
  · have h1 : 4096 < n := by omega
    have hd : decide (n < 1) = false := by simp; omega
    clear hn h0
    go_enter Tryz.func38, Tryz.ntmps38
    go_wp2
    go_ret2
    exact ⟨rfl, rfl⟩

/-- A new device is answered. -/
def News (w : World) (n : Nat) (e : Ending) (w' : World) : Prop :=
  ∃ b, e = .returned (.tuple #[ptr b, err 0]) ∧ Dev w' b (fresh n) (fun q => w.heap.size ≤ q ∧ q < w'.heap.size) ∧ Below w.heap.size w w'

theorem made_rows (n : Nat) : (madeCells nilSl.cells (n * 1)).toList = List.replicate n nilSl := by
  apply List.ext_getElem?
  intro j
  by_cases hj : j < n
  · simp [madeCells, hj, Value.cells, Nat.mod_one]
  · simp [madeCells, hj]

theorem fresh_get {n k : Nat} {x : Bk} (h : (fresh n).bk[k]? = some x) : x = ⟨noughts, []⟩ ∧ k < n := by
  have h1 : (fresh n).bk = List.replicate n ⟨noughts, []⟩ := rfl
  rw [h1, List.getElem?_replicate] at h
  split at h
  · simp only [Option.some.injEq] at h
    exact ⟨h.symm, by assumption⟩
  · cases h

theorem new_dev {w w1 : World} {n : Nat} (h1 : 1 ≤ n) (h2 : n ≤ 4096) (c1 : Cel w1 w.heap.size (List.replicate n nilSl) 23) (hz : w.heap.size < w1.heap.size) :
    Dev ((w1.alloc (.map #[] 0)).alloc (.cells #[.slice (some ⟨w.heap.size, 0, none⟩) n n, .map (some w1.heap.size), .bool true, .int .i64 (-1)] 107)) (w1.heap.size + 1) (fresh n)
      (fun q => w.heap.size ≤ q ∧ q < w1.heap.size + 2) := by
  have hm := World.ownsMap_made (H := Value) w1 Tryz.prog 3 rawR
  have hlen : (fresh n).bk.length = n := List.length_replicate
  have z2 : (w1.alloc (.map #[] 0)).heap.size = w1.heap.size + 1 := by simp
  have hh := Cel.new (w1.alloc (.map #[] 0)) #[.slice (some ⟨w.heap.size, 0, none⟩) n n, .map (some w1.heap.size), .bool true, .int .i64 (-1)] 107
  rw [z2] at hh
  refine ⟨w.heap.size, w1.heap.size, List.replicate n nilSl, fun _ => nilSl, .map [], {
    head := by rw [hlen]; exact hh
    rows := (c1.alloc _).alloc _
    svl := by rw [hlen, List.length_replicate]
    sure := fun k x hx => by
      obtain ⟨rfl, hk⟩ := fresh_get hx
      exact ⟨nilSl, by rw [List.getElem?_replicate, if_pos hk], .inl ⟨rfl, rfl⟩⟩
    map := ((hm.mono (by omega : 0 ≤ 4096)).alloc _)
    keys := fun k x hx => by
      obtain ⟨rfl, hk⟩ := fresh_get hx
      exact ⟨rfl, rfl⟩
    only := fun kl h => by cases h
    loose := fun k x hx => by
      obtain ⟨rfl, hk⟩ := fresh_get hx
      exact RowF.nil _ _
    apart := fun j k _ _ _ => .inl rfl
    off := fun k _ h => by cases h
    fb := ⟨by omega, by omega⟩
    fs := ⟨by omega, by omega⟩
    fm := ⟨by omega, by omega⟩
    fl := fun g hg => by
      have := hg.2
      simp only [World.size_alloc]
      omega
    pos := by rw [hlen]; exact h1
    few := by rw [hlen]; exact h2
    low := by show (-1 : Int) ≤ -1; omega
    high := by show (-1 : Int) ≤ _; omega }⟩

theorem new_ok (n : Nat) (w : World) (h1 : 1 ≤ n) (h2 : n ≤ 4096) : Calls Tryz.prog 38 #[.int .i64 (n : Int)] w (News w n) := by
  obtain ⟨i0, hi, hz0, hz1, hz2⟩ := info_parts row_info0
  obtain ⟨w1, hmk, o1, g1⟩ := run_make_full (P := Tryz.prog) w w.heap.size 104 23 i0 nilSl 1 Tryz.underlying104 hi hz0 hz1 .i64 .i64 n (by rw [hz2]; omega) (by unfold maxLen; omega) (Nat.le_refl _)
  have c1 : Cel w1 w.heap.size (List.replicate n nilSl) 23 := by
    rcases o1.2 with ⟨h, _⟩ | ⟨g, cap, cur, hv, _, hg, _, _, hs, ht⟩
    · cases h
    · simp only [Value.slice.injEq, Option.some.injEq, Addr.mk.injEq] at hv
      obtain ⟨⟨rfl, _⟩, _, rfl⟩ := hv
      rw [List.take_of_length_le (by simp [hs])] at ht
      rw [made_rows] at ht
      unfold Cel
      rw [← ht]
      simpa using hg
  have hb1 : Below w.heap.size w w1 := (Below.refl _ _).grown g1 (Nat.le_refl _) (fun _ h => by cases h)
  have hsz := c1.lt
  have hd := new_dev h1 h2 c1 hsz
  have hmm := @run_makeMap Tryz.prog
  have t1 : decide ((n : Int) < 1) = false := by simp; omega
  have t2 : decide ((4096 : Int) < (n : Int)) = false := by simp; omega
  have H := Lib.hid (And.intro hd (And.intro hb1 hsz))
  clear hd o1 g1 c1 hb1 hi hz0 hz1 hz2 h1 h2 hsz
  go_enter Tryz.func38, Tryz.ntmps38
  go_wp2
  go_ret2
  refine ⟨_, rfl, ?_, ?_⟩
  · have := H.out.1
    simpa using this
  · exact (H.out.2.1.alloc H.out.2.1.size _).alloc (by have := H.out.2.1.size; simp; omega) _
end Go.Proofs.YtgekeemhbnhelaaGreat
namespace Go.Proofs.YtgekeemhbnhelaaGreat
open Go.RowKit Go.Maps

/-- A device of this content, in memory that was laid since w0. -/
def Mine (w0 w : World) (b : Nat) (D : Dv) : Prop := ∃ F, Dev w b D F ∧ (∀ q, F q → w0.heap.size ≤ q) ∧ Below w0.heap.size w0 w
/-- .. and beside it a slice of bytes that lies elsewhere. -/
def MineB (w0 w : World) (b : Nat) (D : Dv) (v : Value) (l : Bytes) : Prop := ∃ F, Dev w b D F ∧ (∀ q, F q → w0.heap.size ≤ q) ∧ Below w0.heap.size w0 w ∧ Bs w v l ∧ ∀ q, v.ownBlock = some q → ¬ F q
/-- .. and beside it a slice of numbers that lies elsewhere. -/
def MineI (w0 w : World) (b : Nat) (D : Dv) (v : Value) (l : List Int) : Prop := ∃ F, Dev w b D F ∧ (∀ q, F q → w0.heap.size ≤ q) ∧ Below w0.heap.size w0 w ∧ Iv w v l ∧ (l ≠ [] → ∀ q, v.ownBlock = some q → ¬ F q)

/-- Fewer than 2^32 things are loose in each block. -/
def Small (D : Dv) : Prop := ∀ (k : Nat) (x : Bk), D.bk[k]? = some x → x.loose.length < 4294967296

section
variable {w0 w : World} {b : Nat} {D : Dv} {v : Value} {l : Bytes}

theorem Mine.under (h : Mine w0 w b D) : Below w0.heap.size w0 w := let ⟨_, _, _, h3⟩ := h; h3
theorem Mine.later {w' : World} (h : Mine w0 w b D) (hb : Below w.heap.size w w') : Mine w0 w' b D := by
  obtain ⟨F, h1, h2, h3⟩ := h
  exact ⟨F, h1.below hb, h2, h3.trans (hb.mono h3.size)⟩
theorem MineB.later {w' : World} (h : MineB w0 w b D v l) (hb : Below w.heap.size w w') : MineB w0 w' b D v l := by
  obtain ⟨F, h1, h2, h3, h4, h5⟩ := h
  exact ⟨F, h1.below hb, h2, h3.trans (hb.mono h3.size), h4.below hb, h5⟩
theorem Mine.len (h : Mine w0 w b D) : 0 < D.bk.length ∧ D.bk.length ≤ 4096 := by
  obtain ⟨F, ⟨sb, mb, sv, lv, Dm, h1⟩, _⟩ := h
  exact ⟨h1.pos, h1.few⟩

/-- What was made behind it lies elsewhere. -/
theorem Mine.with {w' : World} (h : Mine w0 w b D) {g : Nat} (hb : Below w.heap.size w w') (hc : Cel w' g (bvs l) 5) (hl : l.length = 512) (hg : w.heap.size ≤ g) : MineB w0 w' b D (.slice (some ⟨g, 0, none⟩) 512 512) l := by
  obtain ⟨F, h1, h2, h3⟩ := h
  refine ⟨F, h1.below hb, h2, h3.trans (hb.mono h3.size), Blk.bs ⟨g, rfl, hc, hl⟩, fun q e hq => ?_⟩
  have e' : g = q := Option.some.inj e
  subst e'
  have := h1.fl _ hq
  omega

/-- What was there ahead of it lies elsewhere. -/
theorem Mine.old (h : Mine w0 w b D) {l : List Int} (hv : Iv w0 v l) : MineI w0 w b D v l := by
  obtain ⟨F, h1, h2, h3⟩ := h
  refine ⟨F, h1, h2, h3, hv.kept fun q _ _ hq => h3.block q hq, fun hl q e hf => ?_⟩
  obtain ⟨u, hu⟩ : ∃ u, l[0]? = some u := ⟨_, List.getElem?_eq_getElem (List.length_pos_iff.2 hl)⟩
  obtain ⟨g, o, cap, rfl, hc, _⟩ := hv.open hu
  have e' : g = q := Option.some.inj e
  subst e'
  have := h2 g hf
  have := World.block_lt_of_cell? w0 _ hc
  simp only at this
  omega
/-- A literal slice of numbers, laid behind it. -/
theorem Mine.lit (h : Mine w0 w b D) (l : List Int) (hl : l.length ≤ 1000) (hr : ∀ u ∈ l, -9223372036854775808 ≤ u ∧ u ≤ 9223372036854775807) {n : Nat} (hn : n = l.length) {cs : Array Value} (hcs : cs = (l.map (Value.int .i64)).toArray) :
    MineI w0 (w.alloc (.cells cs 3)) b D (.slice (some ⟨w.heap.size, 0, none⟩) n n) l := by
  subst hn
  subst hcs
  have hb : Below w.heap.size w (w.alloc (.cells (l.map (Value.int .i64)).toArray 3)) := (Below.refl _ _).alloc (Nat.le_refl _) _
  obtain ⟨F, h1, h2, h3⟩ := h
  refine ⟨F, h1.below hb, h2, h3.trans (hb.mono h3.size), ⟨some ⟨w.heap.size, 0, none⟩, _, rfl, by omega, (fun e => by cases e), fun ad had i u hu => ?_, hr⟩, fun _ q e hf => ?_⟩
  · cases had
    rw [Addr.add_lit, Nat.zero_add, (Cel.new w _ _).cell]
    simp [hu]
  · have e' : w.heap.size = q := Option.some.inj e
    subst e'
    have := h1.fl _ hf
    omega

theorem m_new (n : Nat) (w : World) (h1 : 1 ≤ n) (h2 : n ≤ 4096) : Calls Tryz.prog 38 #[.int .i64 (n : Int)] w fun e w' => ∃ b, e = .returned (.tuple #[ptr b, err 0]) ∧ Mine w w' b (fresh n) := by
  refine (new_ok n w h1 h2).mono ?_
  rintro e w' ⟨b, rfl, hd, hb⟩
  exact ⟨b, rfl, _, hd, fun q hq => hq.1, hb⟩

/-- What stands in a block is 512 bytes. -/
theorem stands_len {F : Nat → Prop} (h : Dev w b D F) {k : Nat} {x : Bk} (hx : D.bk[k]? = some x) : x.stands.length = 512 := by
  obtain ⟨sb, mb, sv, lv, Dm, h⟩ := h
  rcases hl : x.loose.length with _ | n
  · rw [Bk.stands_nil (List.eq_nil_of_length_eq_zero hl)]
    obtain ⟨u, _, ⟨_, e⟩ | hb⟩ := h.sure k x hx
    · rw [e]; exact List.length_replicate
    · exact hb.blk.len
  · have h1 := Bk.stands_some hl
    obtain ⟨vals, _, hv, _⟩ := h.loose k x hx
    obtain ⟨u, _, hb⟩ := hv n _ h1
    exact hb.blk.len

end
end Go.Proofs.YtgekeemhbnhelaaGreat
namespace Go.Proofs.YtgekeemhbnhelaaGreat
open Go.RowKit Go.Maps

/-- Is there no such block, or are these no block's bytes? -/
def noSuch (D : Dv) (k : Int) (l : Bytes) : Prop := k < 0 ∨ (D.bk.length : Int) ≤ k ∨ l.length ≠ 512
instance (D : Dv) (k : Int) (l : Bytes) : Decidable (noSuch D k l) := by unfold noSuch; infer_instance

def wcode (D : Dv) (k : Int) (l : Bytes) : Int := if D.on = false then 8 else if noSuch D k l then 1 else if D.left = 0 then 8 else 0
def wdev (D : Dv) (k : Int) (l : Bytes) : Dv := if D.on = false then D else if noSuch D k l then D else if D.left = 0 then ⟨D.bk, false, D.left⟩ else ⟨wrote D.bk k.toNat l, D.on, spent D.left⟩
def fcode (D : Dv) : Int := if D.on = false then 8 else if D.left = 0 then 8 else 0
def fdev (D : Dv) : Dv := if D.on = false then D else if D.left = 0 then ⟨D.bk, false, D.left⟩ else ⟨flushed D.bk, D.on, spent D.left⟩
def acode (D : Dv) : Int := if D.on = false then 8 else 0
def adev (D : Dv) (n : Int) : Dv := if D.on = false then D else ⟨D.bk, D.on, max n (-1)⟩
def ocode (D : Dv) : Int := if D.on = false then 8 else 0
def odev (D : Dv) : Dv := if D.on = false then D else ⟨D.bk, false, D.left⟩
def ncode (D : Dv) : Int := if D.on = false then 0 else 3
def ndev (D : Dv) (l : List Int) : Dv := if D.on = false then ⟨comes D.bk l, true, -1⟩ else D

/-- What a device's call answers and leaves. -/
def DSteps (w : World) (b : Nat) (F : Nat → Prop) (c : Int) (D' : Dv) (e : Ending) (w' : World) : Prop := e = .returned (err c) ∧ Dev w' b D' (Grow F w w') ∧ Only F w w'
section
variable {w w' : World} {b : Nat} {D D' : Dv} {F : Nat → Prop}

theorem Dev.fb (h : Dev w b D F) : F b := by obtain ⟨sb, mb, sv, lv, Dm, h⟩ := h; exact h.fb
theorem grow_lt (hF : ∀ q, F q → q < w.heap.size) (hs : w.heap.size ≤ w'.heap.size) : ∀ q, Grow F w w' q → q < w'.heap.size := fun q hq => by
  rcases hq with hq | hq
  · have := hF q hq; omega
  · exact hq.2
theorem d_grow (h0 : Dev w b D F) (h : Dev w' b D' F) (ho : Only (· = b) w w') : Dev w' b D' (Grow F w w') ∧ Only F w w' :=
  ⟨h.widen (fun _ hq => .inl hq) (grow_lt h0.fl ho.size), ho.mono fun _ _ e => e ▸ h0.fb⟩
theorem d_same (h0 : Dev w b D F) : Dev w b D (Grow F w w) ∧ Only F w w := ⟨h0.widen (fun _ hq => .inl hq) (grow_lt h0.fl (Nat.le_refl _)), Only.refl _ _⟩
theorem nosuch_not {k : Int} {l : Bytes} (h : ¬ noSuch D k l) : ∃ n x, k = (n : Nat) ∧ D.bk[n]? = some x ∧ l.length = 512 := by
  have h1 : ¬ k < 0 := fun e => h (.inl e)
  have h2 : ¬ (D.bk.length : Int) ≤ k := fun e => h (.inr (.inl e))
  have h3 : ¬ l.length ≠ 512 := fun e => h (.inr (.inr e))
  exact ⟨k.toNat, D.bk[k.toNat]'(by omega), by omega, List.getElem?_eq_getElem (by omega), by omega⟩

theorem dwrite_any (h : Dev w b D F) (hs : Small D) (k : Int) {v : Value} {l : Bytes} (hv : Bs w v l) (hoff : ∀ q, v.ownBlock = some q → ¬ F q) :
    Calls Tryz.prog 98 #[ptr b, .int .i64 k, v] w (DSteps w b F (wcode D k l) (wdev D k l)) := by
  unfold wcode wdev
  by_cases ho : D.on = false
  · rw [if_pos ho, if_pos ho]
    refine (write_off h ho k v).mono ?_
    rintro e w' ⟨rfl, rfl⟩
    exact ⟨rfl, d_same h⟩
  have ho' : D.on = true := by simpa using ho
  rw [if_neg ho, if_neg ho]
  by_cases hn : noSuch D k l
  · rw [if_pos hn, if_pos hn]
    by_cases hk : k < 0 ∨ (D.bk.length : Int) ≤ k
    · refine (write_no h ho' k hk v).mono ?_
      rintro e w' ⟨rfl, rfl⟩
      exact ⟨rfl, d_same h⟩
    · obtain ⟨n, rfl⟩ : ∃ n : Nat, k = n := ⟨k.toNat, by omega⟩
      have hl : l.length ≠ 512 := by
        rcases hn with h1 | h1 | h1
        · exact absurd (.inl h1) hk
        · exact absurd (.inr h1) hk
        · exact h1
      refine (write_short h ho' n (by omega) hv hl).mono ?_
      rintro e w' ⟨rfl, rfl⟩
      exact ⟨rfl, d_same h⟩
  rw [if_neg hn, if_neg hn]
  obtain ⟨n, x, rfl, hx, hl⟩ := nosuch_not hn
  have hk := (List.getElem?_eq_some_iff.1 hx).1
  by_cases hz : D.left = 0
  · rw [if_pos hz, if_pos hz]
    refine (write_dies h ho' hz n hk hv hl).mono ?_
    rintro e w' ⟨rfl, hd, hon⟩
    exact ⟨rfl, d_grow h hd hon⟩
  · rw [if_neg hz, if_neg hz]
    exact write_ok h ho' hz hx (hs n x hx) hv hl hoff

end

/-- At most n things are loose in each block. -/
def Upto (D : Dv) (n : Nat) : Prop := ∀ (k : Nat) (x : Bk), D.bk[k]? = some x → x.loose.length ≤ n
theorem Upto.small {D : Dv} {n : Nat} (h : Upto D n) (hn : n < 4294967296) : Small D := fun k x hx => by have := h k x hx; omega
theorem Upto.more {D : Dv} {n m : Nat} (h : Upto D n) (hn : n ≤ m) : Upto D m := fun k x hx => by have := h k x hx; omega

theorem wdev_upto {D : Dv} {n : Nat} (h : Upto D n) (k : Int) (l : Bytes) : Upto (wdev D k l) (n + 1) ∧ (wdev D k l).bk.length = D.bk.length := by
  unfold wdev
  split
  · exact ⟨h.more (by omega), rfl⟩
  split
  · exact ⟨h.more (by omega), rfl⟩
  split
  · exact ⟨fun j x hx => by have := h j x hx; omega, rfl⟩
  · refine ⟨fun j x hx => ?_, wrote_length _ _ _⟩
    simp only [wrote_get] at hx
    split at hx
    · obtain ⟨y, hy, rfl⟩ := Option.map_eq_some_iff.1 hx
      have := h j y hy
      simp
      omega
    · have := h j x hx
      omega
end Go.Proofs.YtgekeemhbnhelaaGreat
