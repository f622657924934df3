/- What settles in a device: each block that has something loose is picked one thing, or none, rising, and nothing is loose any more; condition: the picks lie within what is loose. · Flush and On of a device: what stands is sure, or what is picked; conditions: a device lies in memory, or the pointer is nil; fewer than 2^32 things are loose in each block; the picks lie elsewhere. · On of a device: what is kept of what was loose; conditions: a device lies in memory, or the pointer is nil; fewer than 2^32 things are loose in each block; the picks lie elsewhere. · New of a device: a device of noughts that is on, in new memory, or why not; no condition. · A device that a statement has made for itself: what its calls answer, and that nothing older is turned; conditions: fewer than 2^32 things are loose in each block. · Each call of a device: one answer and one device behind it, whatever stands; conditions: it lies in memory; fewer than 2^32 things are loose in each block. · Power of a device; no condition. · What a statement's own device is asked by the statement's helpers; conditions as DevOwn's. · How slices of numbers and single bytes that come in read; no condition. -/
import Derived.Test.YtcpapdpnnlnemaaM07
import Derived.Carry
import Derived.IntWalk
import Derived.Test.YtcpapdpnnlnemaaM06
import Derived.Deep.Slices
import Derived.OpenShut
namespace Go.Proofs.Ytcpapdpnnlnemaa
open Go.RowKit Go.Maps Go.Sort Go.Shelf
attribute [local go_sem] Oper.semAt_some

/-- How many of the blocks ahead of number k have something loose. -/
def cnt (l : List Bk) (k : Nat) : Nat := (l.take k).countP fun b => !b.loose.isEmpty

theorem cnt_zero (l : List Bk) : cnt l 0 = 0 := rfl
theorem cnt_cons (b : Bk) (r : List Bk) (k : Nat) : cnt (b :: r) (k + 1) = cnt r k + if b.loose = [] then 0 else 1 := by
  unfold cnt
  rw [List.take_succ_cons, List.countP_cons]
  congr 1
  cases h : b.loose <;> simp

/-- The blocks behind a settling: by the picks, told in order. -/
def settled : List Bk → List Nat → List Bk
  | [], _ => []
  | b :: r, ps => if b.loose = [] then ⟨b.sure, []⟩ :: settled r ps else ⟨b.picked (ps.headD 0), []⟩ :: settled r ps.tail

theorem settled_length : ∀ (l : List Bk) (ps : List Nat), (settled l ps).length = l.length
  | [], _ => rfl
  | b :: r, ps => by unfold settled; split <;> simp [settled_length r]

theorem settled_at : ∀ (l : List Bk) (ps : List Nat) (k : Nat) (x : Bk), l[k]? = some x →
    (settled l ps)[k]? = some ⟨if x.loose = [] then x.sure else x.picked ((ps[cnt l k]?).getD 0), []⟩
  | [], _, k, x, h => by simp at h
  | b :: r, ps, 0, x, h => by
    simp only [List.getElem?_cons_zero, Option.some.injEq] at h
    subst h
    unfold settled
    rw [cnt_zero]
    split
    · rename_i h0
      simp
    · rename_i h0
      simp only [List.getElem?_cons_zero]
      cases ps <;> simp
  | b :: r, ps, k + 1, x, h => by
    simp only [List.getElem?_cons_succ] at h
    unfold settled
    rw [cnt_cons]
    split
    · rename_i h0
      simp only [List.getElem?_cons_succ]
      rw [settled_at r ps k x h]
      simp
    · rename_i h0
      simp only [List.getElem?_cons_succ]
      rw [settled_at r ps.tail k x h]
      cases ps <;> simp

theorem cnt_range (l : List Bk) (k : Nat) (hk : k ≤ l.length) : ((List.range k).filter fun j => !(looseAt l j).isEmpty).length = cnt l k := by
  induction k with
  | zero => rfl
  | succ k ih =>
    rw [List.range_succ, List.filter_append, List.length_append, ih (by omega)]
    obtain ⟨x, hx⟩ : ∃ x, l[k]? = some x := ⟨_, List.getElem?_eq_getElem (by omega)⟩
    unfold cnt
    rw [List.take_add_one, List.countP_append, hx]
    simp only [looseAt, hx, List.filter_cons, List.filter_nil, Option.map_some, Option.getD_some, Option.toList_some, List.countP_cons, List.countP_nil]
    cases h : x.loose <;> simp

theorem loosen_at {l : List Bk} {k : Nat} (hk : k ∈ loosen l) : (loosen l)[cnt l k]? = some k := by
  obtain ⟨hlt, hne⟩ := mem_loosen.1 hk
  unfold loosen
  have e : List.range l.length = List.range k ++ (k :: (List.range (l.length - (k + 1))).map (· + (k + 1))) := by
    obtain ⟨m, hm⟩ : ∃ m, l.length = (k + 1) + m := ⟨l.length - (k + 1), by omega⟩
    rw [hm, List.range_add, List.range_succ, List.append_assoc]
    simp [Nat.add_comm]
  rw [e, List.filter_append, List.getElem?_append_right (by rw [cnt_range l k (by omega)]; exact Nat.le_refl _), cnt_range l k (by omega), Nat.sub_self, List.filter_cons]
  rw [if_pos (by simpa using hne)]
  rfl

theorem loosen_inv {l : List Bk} {i k : Nat} (h : (loosen l)[i]? = some k) : cnt l k = i ∧ k ∈ loosen l := by
  have hk : k ∈ loosen l := List.mem_of_getElem? h
  refine ⟨?_, hk⟩
  have h2 := loosen_at hk
  have hl1 := (List.getElem?_eq_some_iff.1 h).1
  have hl2 := (List.getElem?_eq_some_iff.1 h2).1
  have h3 : (loosen l)[cnt l k]'hl2 = (loosen l)[i]'hl1 := by
    rw [(List.getElem?_eq_some_iff.1 h).2, (List.getElem?_eq_some_iff.1 h2).2]
  have hp := List.pairwise_iff_getElem.1 (loosen_nodup l)
  rcases Nat.lt_trichotomy (cnt l k) i with h4 | h4 | h4
  · exact absurd h3 (hp _ _ hl2 hl1 h4)
  · exact h4
  · exact absurd h3.symm (hp _ _ hl1 hl2 h4)

/-- What a value of the row of what is sure may be. -/
def SureOk (w : World) (F : Nat → Prop) (u : Value) (s : Bytes) : Prop := u = nilSl ∧ s = noughts ∨ BlkF w F u s

/-- What is sure behind i rounds. -/
def target (bk : List Bk) (pk : Nat → Nat → Nat) (i k : Nat) (x : Bk) : Bytes :=
  if x.loose ≠ [] ∧ cnt bk k < i then x.picked (pk (cnt bk k) x.loose.length) else x.sure

/-- The device behind a settling, its new map stored. -/
theorem settle_dev {w W : World} {b sb mb : Nat} {sv svi : List Value} {lv : Nat → Value} {Dm : DataW Value} {D : Dv} {F S : Nat → Prop} (h : DevAt w b sb mb sv lv Dm D F) (ho : Only S w W) (hS : ∀ q, S q → q = sb ∨ ¬ F q)
    (hc : Cel W sb svi 33) (hl : svi.length = D.bk.length) {bk : List Bk} (hbl : bk.length = D.bk.length) (hb : ∀ (k : Nat) (y : Bk), bk[k]? = some y → y.loose = [] ∧ ∃ u, svi[k]? = some u ∧ SureOk w F u y.sure) :
    Dev ((W.alloc (.map #[] 0)).setCell ⟨b, 1, none⟩ (.map (some W.heap.size))) b ⟨bk, D.on, D.left⟩ (fun q => F q ∨ q = W.heap.size) ∧
      Only (fun q => S q ∨ F q) w ((W.alloc (.map #[] 0)).setCell ⟨b, 1, none⟩ (.map (some W.heap.size))) := by
  have hz := ho.size
  have hbF := h.fl _ h.fb
  have hkeep : ∀ q, F q → q ≠ sb → W.heap[q]? = w.heap[q]? := fun q hq hne => ho.block q (h.fl q hq) (fun hs => by
    rcases hS q hs with h1 | h1
    · exact hne h1
    · exact h1 hq)
  have hhead := ((h.head.kept (hkeep b h.fb h.b_ne.1)).alloc (.map #[] 0)).set 1 (.map (some W.heap.size))
  have hm := (World.ownsMap_made (H := Value) W Try.prog 3 rawR).mono (by omega : 0 ≤ 4096)
  have hset : ∀ q, q ≠ b → ((W.alloc (.map #[] 0)).setCell ⟨b, 1, none⟩ (.map (some W.heap.size))).heap[q]? = (W.alloc (.map #[] 0)).heap[q]? := fun q hq => Below.heap_setCell _ ⟨b, 1, none⟩ _ _ hq
  have hsz : ((W.alloc (.map #[] 0)).setCell ⟨b, 1, none⟩ (.map (some W.heap.size))).heap.size = W.heap.size + 1 := by simp [World.setCell]
  refine ⟨⟨sb, W.heap.size, svi, fun _ => nilSl, .map [], {
    head := by rw [hbl]; exact hhead
    rows := (hc.alloc _).kept (hset sb (h.b_ne.1.symm))
    svl := by rw [hl, hbl]
    sure := fun k y hy => by
      obtain ⟨_, u, hu, hs⟩ := hb k y hy
      refine ⟨u, hu, hs.imp id fun hbk => hbk.kept (fun q hq ⟨cs, hcq⟩ => ?_) (fun q hq => .inl hq)⟩
      have h1 : q ≠ sb := fun e => by
        subst e
        have := (hcq.inj h.rows).2
        cases this
      have h2 : q ≠ b := h.b_not hcq (by decide)
      rw [hset q h2, Below.heap_alloc _ _ _ (Nat.lt_of_lt_of_le (h.fl q hq) hz)]
      exact hkeep q hq h1
    map := ownsMap_kept' hm (hset _ (by omega))
    keys := fun k y hy => by rw [(hb k y hy).1]; exact ⟨rfl, rfl⟩
    only := fun kl hk => by cases hk
    loose := fun k y hy => by rw [(hb k y hy).1]; exact RowF.nil _ _
    apart := fun j k _ _ _ => .inl rfl
    off := fun k _ e => by cases e
    fb := .inl h.fb
    fs := .inl h.fs
    fm := .inr rfl
    fl := fun q hq => by
      rw [hsz]
      rcases hq with h1 | h1
      · have := h.fl q h1
        omega
      · omega
    pos := by
      show 0 < bk.length
      rw [hbl]; exact h.pos
    few := by
      show bk.length ≤ 4096
      rw [hbl]; exact h.few
    low := h.low
    high := h.high }⟩, ?_⟩
  exact ((ho.mono (fun q _ hq => Or.inl hq)).alloc _).setCell (p := ⟨b, 1, none⟩) (.inl (.inr h.fb)) _

/-- What holds between two rounds. -/
structure SJ (w : World) (F PS : Nat → Prop) (b sb : Nat) (bk : List Bk) (pk : Nat → Nat → Nat) (PJ : Nat → World → Prop) (pv : Value) (rc : Loop) (i : Nat) (W : World) : Prop where
  only : Only (fun q => q = sb ∨ PS q) w W
  row : ∃ svi, Cel W sb svi 33 ∧ svi.length = bk.length ∧ ∀ (k : Nat) (x : Bk), bk[k]? = some x → ∃ u, svi[k]? = some u ∧ SureOk w F u (target bk pk i k x)
  pj : PJ i W
  b0 : Cel W w.heap.size [ptr b] 25
  b1 : Cel W (w.heap.size + 1) [pv] 74
  dd : W.heap[w.heap.size + 2]? = some (.deferred (some []))
  ll : W.heap[w.heap.size + 3]? = some (.loop rc)

theorem SJ.below {w W W' : World} {F PS : Nat → Prop} {b sb : Nat} {bk : List Bk} {pk : Nat → Nat → Nat} {PJ : Nat → World → Prop} {pv : Value} {rc : Loop} {i B : Nat} (h : SJ w F PS b sb bk pk PJ pv rc i W)
    (hPJ : ∀ i W W', PJ i W → (∀ q, q < w.heap.size → q ≠ sb → W'.heap[q]? = W.heap[q]?) → PJ i W') (hs : sb < w.heap.size) (hb : RowKit.Below B W W') (hB : w.heap.size + 4 ≤ B) : SJ w F PS b sb bk pk PJ pv rc i W' where
  only := ⟨hb.os.trans h.only.os, hb.tape.trans h.only.tape, hb.output.trans h.only.output, Nat.le_trans h.only.size hb.size, fun q hq hn => (hb.block q (by omega)).trans (h.only.block q hq hn)⟩
  row := by
    obtain ⟨svi, hc, r⟩ := h.row
    exact ⟨svi, hc.kept (hb.block _ (by omega)), r⟩
  pj := hPJ i W W' h.pj fun q hq _ => hb.block q (by omega)
  b0 := h.b0.kept (hb.block _ (by omega))
  b1 := h.b1.kept (hb.block _ (by omega))
  dd := (hb.block _ (by omega)).trans h.dd
  ll := (hb.block _ (by omega)).trans h.ll

/-- The record is turned. -/
theorem SJ.turn {w W : World} {F PS : Nat → Prop} {b sb : Nat} {bk : List Bk} {pk : Nat → Nat → Nat} {PJ : Nat → World → Prop} {pv : Value} {rc : Loop} {i : Nat} (h : SJ w F PS b sb bk pk PJ pv rc i W)
    (hPJ : ∀ i W W', PJ i W → (∀ q, q < w.heap.size → q ≠ sb → W'.heap[q]? = W.heap[q]?) → PJ i W') (hs : sb < w.heap.size) (rc' : Loop) : SJ w F PS b sb bk pk PJ pv rc' i (W.putObj (w.heap.size + 3) (.loop rc')) := by
  have hk : ∀ q, q ≠ w.heap.size + 3 → (W.putObj (w.heap.size + 3) (.loop rc')).heap[q]? = W.heap[q]? := fun q hq => World.putObj_heap_other hq
  have hlt := (Array.getElem?_eq_some_iff.1 h.ll).1
  have hg := grownBy_putObj' W (w.heap.size + 3) (.loop rc')
  exact {
    only := h.only.grown hg (fun q e => by cases e; exact .inr (by omega))
    row := by
      obtain ⟨svi, hc, r⟩ := h.row
      exact ⟨svi, hc.kept (hk _ (by omega)), r⟩
    pj := hPJ i W _ h.pj fun q hq _ => hk q (by omega)
    b0 := h.b0.kept (hk _ (by omega))
    b1 := h.b1.kept (hk _ (by omega))
    dd := (hk _ (by omega)).trans h.dd
    ll := World.putObj_heap_same hlt }

set_option maxRecDepth 100000 in
set_option maxHeartbeats 4000000 in
theorem settle_in (n : Nat) (hn : 12 ≤ n) {w : World} {b sb mb : Nat} {sv : List Value} {lv : Nat → Value} {Dm : DataW Value} {D : Dv} {F PS : Nat → Prop} (h : DevAt w b sb mb sv lv Dm D F) {gf : Nat} {caps : Array Value}
    (eg : ∀ args w, (callFunc gf args).run Try.prog w = .ok (.enter gf args) w) (pk : Nat → Nat → Nat) (PJ : Nat → World → Prop) (hPS : ∀ q, PS q → ¬ F q ∧ q < w.heap.size) (h0 : PJ 0 w)
    (hPJ : ∀ i W W', PJ i W → (∀ q, q < w.heap.size → q ≠ sb → W'.heap[q]? = W.heap[q]?) → PJ i W') (hpk : ∀ i m, pk i m ≤ m)
    (hpick : ∀ i m W, PJ i W → 0 < m → m < 4294967296 → i < (loosen D.bk).length → Calls Try.prog gf (#[.int .i64 (m : Int)] ++ caps) W fun e W' => e = .returned (.int .i64 (pk i m : Nat)) ∧ PJ (i + 1) W' ∧ Only PS W W')
    (hsmall : ∀ (k : Nat) (x : Bk), D.bk[k]? = some x → x.loose.length < 4294967296)
    (ps : List Nat) (hps : ∀ (k : Nat) (x : Bk), D.bk[k]? = some x → x.loose ≠ [] → (ps[cnt D.bk k]?).getD 0 = pk (cnt D.bk k) x.loose.length) :
    Calls Try.prog 35 #[ptr b, .func (.func gf) #[] caps] w fun e w' => e = .returned (.tuple #[]) ∧ Dev w' b ⟨settled D.bk ps, D.on, D.left⟩ (Grow F w w') ∧ Only (fun q => F q ∨ PS q) w w' := by
  refine (callsIn_wide (n := n)).1 ?_
  have h1n : 1 ≤ n := by omega
  refine callsIn_of_wp_marks Try.func35 rfl trivial ?_ rfl
  simp only [Try.ntmps35, List.size_toArray, List.length_cons, List.length_nil, Nat.reduceAdd, Nat.reduceSub, Array.replicate_succ, Array.replicate_zero, List.push_toArray, List.append_toArray, List.nil_append, List.cons_append]
  gi_wp2
  have hz0 : ((w.alloc (.cells #[ptr b] 25)).alloc (.cells #[.func (.func gf) #[] caps] 74)).heap.size = w.heap.size + 2 := by simp
  have hcb := (Cel.new w #[ptr b] 25).alloc (.cells #[.func (.func gf) #[] caps] 74)
  have hcp := Cel.new (w.alloc (.cells #[ptr b] 25)) #[.func (.func gf) #[] caps] 74
  have hbw : RowKit.Below w.heap.size w ((w.alloc (.cells #[ptr b] 25)).alloc (.cells #[.func (.func gf) #[] caps] 74)) := ((Below.refl _ _).alloc (Nat.le_refl _) _).alloc (by simp) _
  rw [World.size_alloc] at hcp
  generalize hw0 : (w.alloc (.cells #[ptr b] 25)).alloc (.cells #[.func (.func gf) #[] caps] 74) = w0 at *
  clear hw0
  refine range_method h1n (gf := 54) (rv := ptr b) rfl (enters_of Try.func54 (by kernel_rfl) rfl) ?_
  intro fn rec W1 hrec hW1
  have hbw1 : RowKit.Below w0.heap.size w0 W1 := by rw [hW1]; exact ((Below.refl _ _).alloc (Nat.le_refl _) _).alloc (by simp) _
  have hz1 : W1.heap.size = w.heap.size + 4 := by rw [hW1]; simp [hz0]
  have hfs := h.fl _ h.fs
  have hwW1 : RowKit.Below w.heap.size w W1 := hbw.trans (hbw1.mono (by omega))
  have h1 : DevAt W1 b sb mb sv lv Dm D F := h.kept (fun g hg => hwW1.block g (h.fl g hg)) hwW1.size
  have hS1 : SJ w F PS b sb D.bk pk PJ (.func (.func gf) #[] caps) (rec .ready none) 0 W1 := {
    only := Only.of_below hwW1 _
    row := ⟨sv, h1.rows, h.svl, fun k x hx => by
      obtain ⟨u, hu, hs⟩ := h.sure k x hx
      refine ⟨u, hu, ?_⟩
      unfold target
      rw [if_neg (by simp)]
      exact hs⟩
    pj := hPJ 0 w W1 h0 fun q hq _ => hwW1.block q hq
    b0 := hcb.kept (hbw1.block _ (by omega))
    b1 := hcp.kept (hbw1.block _ (by omega))
    dd := by
      rw [hW1, ← hz0]
      exact (Below.heap_alloc _ _ _ (by simp)).trans (World.alloc_heap_new w0 _)
    ll := by
      have := World.alloc_heap_new (w0.alloc (.deferred (some []))) (.loop (rec .ready none))
      rw [World.size_alloc, hz0] at this
      rw [hW1]
      exact this }
  rw [hz0]
  refine (rising_in (n - 1) (by omega) (B := w.heap.size + 4) (J := SJ w F PS b sb D.bk pk PJ (.func (.func gf) #[] caps) (rec .ready none)) h1 (by omega) (fun W hW => hS1.below hPJ hfs hW (by omega)) (fun i W hW => ?_) (fun i k W hW hk => ?_)).mono ?_
  · have hne := h.b_ne
    exact ⟨(hW.only.block b (h.fl _ h.fb) (fun e => e.elim hne.1 (fun e => (hPS _ e).1 h.fb))).trans (hwW1.block b (h.fl _ h.fb)).symm,
      (hW.only.block mb (h.fl _ h.fm) (fun e => e.elim (fun e => hne.2.2 e.symm) (fun e => (hPS _ e).1 h.fm))).trans (hwW1.block mb (h.fl _ h.fm)).symm⟩
  · obtain ⟨hcnt, hkl⟩ := loosen_inv hk
    obtain ⟨hklt, hkne⟩ := mem_loosen.1 hkl
    obtain ⟨x, hx⟩ : ∃ x, D.bk[k]? = some x := ⟨_, List.getElem?_eq_getElem hklt⟩
    rw [looseAt_get hx] at hkne
    have hpos : 0 < x.loose.length := List.length_pos_iff.2 hkne
    have hrow := h.loose k x hx
    obtain ⟨g, cap, hv, hcells⟩ := hrow.some hpos
    have hgF : F g := by
      obtain ⟨_, _, _, hf⟩ := hrow
      exact hf g (by rw [hv]; rfl)
    have hgsb : g ≠ sb := fun e => h.off k hklt (by rw [hv, e]; rfl)
    rw [hv]
    have hWb := hW.turn hPJ hfs (rec .busy none)
    have hkW : KeepCells (w.heap.size + 4) W (W.putObj (w.heap.size + 3) (.loop (rec .busy none))) :=
      ⟨by simp [World.putObj], fun q cs t fr hq hc => (World.putObj_heap_other (by omega)).trans hc⟩
    refine (yield_goes (a₁ := { tmps := #[ptr b, .func (.func gf) #[] caps, .pointer (some ⟨w.heap.size, 0, none⟩), .pointer (some ⟨w.heap.size + 1, 0, none⟩), .int .i64 (k : Int), .slice (some ⟨g, 0, none⟩) x.loose.length cap, undef, ptr b, .func (.func 54) #[ptr b] #[], .int .i64 (k : Int), .slice (some ⟨g, 0, none⟩) x.loose.length cap, undef, undef, undef, undef, undef, undef, undef, undef, undef, undef, undef, undef, undef, undef, undef, undef, undef, undef, undef, undef, undef], defers := [] }) hrec hW.ll rfl ?assign ?body).mono (fun e W' hh => hh)
    case assign =>
      intro K hK
      gi_wp2
      exact hK
    case body =>
      generalize W.putObj (w.heap.size + 3) (.loop (rec .busy none)) = Wb at *
      have hlen := hrow.len
      have hsm := hsmall k x hx
      have cb0 : Wb.cell? ⟨w.heap.size, 0, none⟩ = some (ptr b) := by rw [hWb.b0.cell]; rfl
      have cb1 : Wb.cell? ⟨w.heap.size + 1, 0, none⟩ = some (.func (.func gf) #[] caps) := by rw [hWb.b1.cell]; rfl
      have hcall : CallsIn (Fence.wide.inRound (w.heap.size + 3)) (n - 1 - 1 - 1) Try.prog gf (#[.int .i64 (x.loose.length : Int)] ++ caps) Wb _ := CallsIn.inRound _ (callsIn_wide.2 (hpick i x.loose.length Wb hWb.pj hpos hsm (List.getElem?_eq_some_iff.1 hk).1))
      have HC := Lib.hid hcall
      have hfg : (Fence.wide.inRound (w.heap.size + 3)).fn gf := trivial
      have h1n' : 1 ≤ n - 1 - 1 := by omega
      clear hrec hW1 hcall
      gi_wp2_with fail
      refine ⟨trivial, HC.out.mono ?_⟩
      rintro e W2 ⟨rfl, hpj, hon⟩
      have hzb := hWb.only.size
      have hnb : ∀ q, F q → ¬ PS q := fun q hq hp => (hPS q hp).1 hq
      have hnw : ∀ q, w.heap.size ≤ q → ¬ PS q := fun q hq hp => by have := (hPS q hp).2; omega
      have hon2 : Only (fun q => q = sb ∨ PS q) w W2 := hWb.only.then hon (fun q hq => .inl (.inr hq))
      have hkeep : ∀ q, F q → q ≠ sb → W2.heap[q]? = w.heap[q]? := fun q hq hne => hon2.block q (h.fl q hq) (fun e => e.elim hne (hnb q hq))
      have hnew : ∀ q, w.heap.size ≤ q → q < Wb.heap.size → W2.heap[q]? = Wb.heap[q]? := fun q hq hl => hon.block q hl (hnw q hq)
      have b0' := hWb.b0.kept (hnew _ (Nat.le_refl _) hWb.b0.lt)
      have b1' := hWb.b1.kept (hnew _ (by omega) hWb.b1.lt)
      have dd' := (hnew _ (by omega) (Array.getElem?_eq_some_iff.1 hWb.dd).1).trans hWb.dd
      have ll' := (hnew _ (by omega) (Array.getElem?_eq_some_iff.1 hWb.ll).1).trans hWb.ll
      have hkW2 : KeepCells (w.heap.size + 4) Wb W2 := ⟨hon.size, fun q cs t fr hq hc => (hnew q (by omega) (Array.getElem?_eq_some_iff.1 hc).1).trans hc⟩
      obtain ⟨svi, hsc, hsl, hsv⟩ := hWb.row
      have hsc2 : Cel W2 sb svi 33 := hsc.kept (hon.block sb hsc.lt (hnb sb h.fs))
      have hple := hpk i x.loose.length
      have htgt : ∀ (k' : Nat) (y : Bk), D.bk[k']? = some y → k' ≠ k → target D.bk pk (i + 1) k' y = target D.bk pk i k' y := fun k' y hy hne => by
        unfold target
        by_cases hl : y.loose = []
        · simp [hl]
        · have hm : k' ∈ loosen D.bk := mem_loosen.2 ⟨(List.getElem?_eq_some_iff.1 hy).1, by rw [looseAt_get hy]; exact hl⟩
          have hci : cnt D.bk k' ≠ i := fun e => hne (by
            have h1 := loosen_at hm
            rw [e, hk] at h1
            exact (Option.some.inj h1).symm)
          have : cnt D.bk k' < i + 1 ↔ cnt D.bk k' < i := by omega
          simp [this]
      have htk : target D.bk pk (i + 1) k x = x.picked (pk i x.loose.length) := by
        unfold target
        rw [if_pos ⟨hkne, by omega⟩, hcnt]
      have hts : target D.bk pk i k x = x.sure := by
        unfold target
        rw [if_neg (by rw [hcnt]; simp)]
      have fin : ∀ (W3 : World) (sv3 : List Value), Only (fun q => q = sb ∨ PS q) w W3 → (∀ q, q < W2.heap.size → q ≠ sb → W3.heap[q]? = W2.heap[q]?) → W2.heap.size ≤ W3.heap.size → Cel W3 sb sv3 33 → sv3.length = D.bk.length →
          (∀ (k' : Nat) (y : Bk), D.bk[k']? = some y → ∃ u, sv3[k']? = some u ∧ SureOk w F u (target D.bk pk (i + 1) k' y)) →
          W3.heap[w.heap.size + 3]? = some (.loop (rec .busy none)) ∧ SJ w F PS b sb D.bk pk PJ (.func (.func gf) #[] caps) (rec .ready none) (i + 1) (W3.putObj (w.heap.size + 3) (.loop (rec .ready none))) ∧
            KeepCells (w.heap.size + 4) W (W3.putObj (w.heap.size + 3) (.loop (rec .ready none))) := by
        intro W3 sv3 ho3 hk3 hz3 hc3 hl3 ht3
        have hzz : w.heap.size + 3 < W2.heap.size := (Array.getElem?_eq_some_iff.1 ll').1
        have hS3 : SJ w F PS b sb D.bk pk PJ (.func (.func gf) #[] caps) (rec .busy none) (i + 1) W3 := {
          only := ho3
          row := ⟨sv3, hc3, hl3, ht3⟩
          pj := hPJ _ _ _ hpj fun q hq hne => hk3 q (by omega) hne
          b0 := b0'.kept (hk3 _ (by omega) (by omega))
          b1 := b1'.kept (hk3 _ (by omega) (by omega))
          dd := (hk3 _ (by omega) (by omega)).trans dd'
          ll := (hk3 _ (by omega) (by omega)).trans ll' }
        refine ⟨hS3.ll, hS3.turn hPJ hfs _, (hkW.trans hkW2).trans ⟨by simpa [World.putObj] using hz3, fun q cs t fr hq hc => (World.putObj_heap_other (by omega)).trans ((hk3 q (Array.getElem?_eq_some_iff.1 hc).1 (by omega)).trans hc)⟩⟩
      have FIN := Lib.hid fin
      have HT := Lib.hid (And.intro htgt (And.intro htk hts))
      have HS := Lib.hid (And.intro hsc2 (And.intro hsl hsv))
      have hsbn := h.few
      have cd : W2.cell? ⟨b, 0, none⟩ = some (.slice (some ⟨sb, 0, none⟩) D.bk.length D.bk.length) := (World.cell?_of_block (w := w) (a := ⟨b, 0, none⟩) (hkeep b h.fb h.b_ne.1)).trans h.cells.1
      have cb2 : W2.cell? ⟨w.heap.size, 0, none⟩ = some (ptr b) := by rw [b0'.cell]; rfl
      have hgk := hkeep g hgF hgsb
      clear htgt htk hts fin hsv hsc b0' b1' dd' ll' hkW2 hnew hWb hpj hon hPJ hpick hPS
      rcases hpz : pk i x.loose.length with _ | m
      · have HZ := Lib.hid hpz
        clear hpz
        have hd : decide ((0 : Int) < ((0 : Nat) : Int)) = false := rfl
        gi_wp2
        refine FIN.out W2 svi hon2 (fun _ _ _ => rfl) (Nat.le_refl _) HS.out.1 HS.out.2.1 (fun k' y hy => ?_)
        obtain ⟨u, hu, hs⟩ := HS.out.2.2 k' y hy
        refine ⟨u, hu, ?_⟩
        by_cases hkk : k' = k
        · subst hkk
          rw [hx] at hy
          cases hy
          rw [HT.out.2.1, HZ.out]
          rw [HT.out.2.2] at hs
          exact hs
        · rw [HT.out.1 k' y hy hkk]
          exact hs
      · have HZ := Lib.hid hpz
        rw [hpz] at hple
        clear hpz
        obtain ⟨l, hl⟩ : ∃ l, x.loose[m]? = some l := ⟨_, List.getElem?_eq_getElem (by omega)⟩
        obtain ⟨u, hu, hbu⟩ := hcells m l hl
        obtain ⟨gu, rfl, hbu2⟩ := hbu
        have ct : W2.cell? ⟨g, m, none⟩ = some (.slice (some ⟨gu, 0, none⟩) 512 512) := (World.cell?_of_block (w := w) (a := ⟨g, m, none⟩) hgk).trans hu
        obtain ⟨old, hold⟩ : ∃ old, svi[k]? = some old := ⟨_, List.getElem?_eq_getElem (by rw [HS.out.2.1]; exact hklt)⟩
        have co : W2.cell? ⟨sb, k, none⟩ = some old := by rw [hsc2.cell, hold]
        have fo := hsc2.frozen k
        have hkn : (k : Int) < (D.bk.length : Int) := by omega
        have hmn : (m : Int) < (x.loose.length : Int) := by omega
        have HL := Lib.hid (And.intro hl hbu2)
        have HX := Lib.hid hx
        clear hl hbu2 hu hcells hold hsc2 hgk hsl hx hk hkne hv hklt hcnt
        have hlo : ¬ LetsOut (Exit.inBlock 1 (GoesOn fun W' => W'.heap[w.heap.size + 3]? = some (.loop (rec .busy none)) ∧ SJ w F PS b sb D.bk pk PJ (.func (.func gf) #[] caps) (rec .ready none) (i + 1) (W'.putObj (w.heap.size + 3) (.loop (rec .ready none))) ∧
            KeepCells (w.heap.size + 4) W (W'.putObj (w.heap.size + 3) (.loop (rec .ready none))))) := fun ⟨_, _, hh⟩ => hh
        have hm1 : (m : Int) ≤ 9223372036854775806 := by omega
        gi_wp2
        refine region_till_round 11 (fun W => W = W2.drew) (by kernel_rfl) (by kernel_rfl) hlo rfl (fun hS => ?_)
        clear hlo
        refine take_till (i := 0) (some 17) (ptr b) rfl rfl (by kernel_rfl) (by kernel_rfl) (by kernel_rfl) (by kernel_rfl) (by decide) (fun _ _ _ h => h) (by rfl) (fun W hW => ?_) hS ?_
        · subst hW
          go_simp
        simp only [Act.put, List.setIfInBounds_toArray, List.set_cons_zero, List.set_cons_succ]
        refine take_till (i := 1) (some 18) (ptr b) rfl rfl (by kernel_rfl) (by kernel_rfl) (by kernel_rfl) (by kernel_rfl) (by decide) (fun _ _ _ h => h) (by rfl) (fun W hW => ?_) hS ?_
        · subst hW
          go_simp
        simp only [Act.put, List.setIfInBounds_toArray, List.set_cons_zero, List.set_cons_succ]
        refine take_till (i := 2) (some 19) (.pointer (some ⟨b, 0, none⟩)) rfl rfl (by kernel_rfl) (by kernel_rfl) (by kernel_rfl) (by kernel_rfl) (by decide) (fun _ _ _ h => h) (by rfl) (fun W hW => ?_) hS ?_
        · subst hW
          go_simp
        simp only [Act.put, List.setIfInBounds_toArray, List.set_cons_zero, List.set_cons_succ]
        refine take_till (i := 3) (some 20) (.slice (some ⟨sb, 0, none⟩) D.bk.length D.bk.length) rfl rfl (by kernel_rfl) (by kernel_rfl) (by kernel_rfl) (by kernel_rfl) (by decide) (fun _ _ _ h => h) (by rfl) (fun W hW => ?_) hS ?_
        · subst hW
          go_simp
        simp only [Act.put, List.setIfInBounds_toArray, List.set_cons_zero, List.set_cons_succ]
        refine take_till (i := 4) (some 21) (.int .i64 (k : Int)) rfl rfl (by kernel_rfl) (by kernel_rfl) (by kernel_rfl) (by kernel_rfl) (by decide) (fun _ _ _ h => h) (by rfl) (fun W hW => ?_) hS ?_
        · subst hW
          go_simp
        simp only [Act.put, List.setIfInBounds_toArray, List.set_cons_zero, List.set_cons_succ]
        refine take_till (i := 5) (some 22) (.slice (some ⟨g, 0, none⟩) x.loose.length cap) rfl rfl (by kernel_rfl) (by kernel_rfl) (by kernel_rfl) (by kernel_rfl) (by decide) (fun _ _ _ h => h) (by rfl) (fun W hW => ?_) hS ?_
        · subst hW
          go_simp
        simp only [Act.put, List.setIfInBounds_toArray, List.set_cons_zero, List.set_cons_succ]
        refine take_till (i := 6) (some 23) (.int .i64 ((m : Int) + 1)) rfl rfl (by kernel_rfl) (by kernel_rfl) (by kernel_rfl) (by kernel_rfl) (by decide) (fun _ _ _ h => h) (by rfl) (fun W hW => ?_) hS ?_
        · subst hW
          go_simp
        simp only [Act.put, List.setIfInBounds_toArray, List.set_cons_zero, List.set_cons_succ]
        refine take_till (i := 7) (some 24) (.int .i64 (m : Int)) rfl rfl (by kernel_rfl) (by kernel_rfl) (by kernel_rfl) (by kernel_rfl) (by decide) (fun _ _ _ h => h) (by rfl) (fun W hW => ?_) hS ?_
        · subst hW
          go_simp
          exact IntWalk.i64_in _ (by omega)
        simp only [Act.put, List.setIfInBounds_toArray, List.set_cons_zero, List.set_cons_succ]
        refine take_till (i := 8) (some 25) (.pointer (some ⟨g, m, none⟩)) rfl rfl (by kernel_rfl) (by kernel_rfl) (by kernel_rfl) (by kernel_rfl) (by decide) (fun _ _ _ h => h) (by rfl) (fun W hW => ?_) hS ?_
        · subst hW
          go_simp
        simp only [Act.put, List.setIfInBounds_toArray, List.set_cons_zero, List.set_cons_succ]
        refine take_till (i := 9) (some 26) (.slice (some ⟨gu, 0, none⟩) 512 512) rfl rfl (by kernel_rfl) (by kernel_rfl) (by kernel_rfl) (by kernel_rfl) (by decide) (fun _ _ _ h => h) (by rfl) (fun W hW => ?_) hS ?_
        · subst hW
          go_simp
        simp only [Act.put, List.setIfInBounds_toArray, List.set_cons_zero, List.set_cons_succ]
        refine take_till (i := 10) (some 27) (.pointer (some ⟨sb, k, none⟩)) rfl rfl (by kernel_rfl) (by kernel_rfl) (by kernel_rfl) (by kernel_rfl) (by decide) (fun _ _ _ h => h) (by rfl) (fun W hW => ?_) hS ?_
        · subst hW
          go_simp
        simp only [Act.put, List.setIfInBounds_toArray, List.set_cons_zero, List.set_cons_succ]
        refine next_till 11 (by kernel_rfl) rfl (fun K hK => ?_)
        go_simp
        refine hK.out _ _ (fun e => absurd rfl e) ?_
        clear hK K
        refine done_till (by kernel_rfl) ?_ _
        have hne3 : ∀ q, q ≠ sb → (W2.drew.setCell ⟨sb, k, none⟩ (.slice (some ⟨gu, 0, none⟩) 512 512)).heap[q]? = W2.heap[q]? := fun q hq => Below.heap_setCell W2.drew ⟨sb, k, none⟩ _ q hq
        refine FIN.out (W2.drew.setCell ⟨sb, k, none⟩ (.slice (some ⟨gu, 0, none⟩) 512 512)) (svi.set k (.slice (some ⟨gu, 0, none⟩) 512 512)) (hon2.drew.setCell (p := ⟨sb, k, none⟩) (.inl (.inl rfl)) _) (fun q _ hq => hne3 q hq) ((Only.refl (fun _ => True) W2).drew.setCell (p := ⟨sb, k, none⟩) (.inl trivial) _).size
          ((show Cel W2.drew sb svi 33 from HS.out.1).set k _) (by rw [List.length_set]; exact HS.out.2.1) (fun k' y hy => ?_)
        by_cases hkk : k' = k
        · subst hkk
          refine ⟨.slice (some ⟨gu, 0, none⟩) 512 512, by rw [List.getElem?_set_self (by rw [HS.out.2.1]; omega)], ?_⟩
          rw [HX.out] at hy
          cases hy
          rw [HT.out.2.1, HZ.out]
          have hpk : x.picked (m + 1) = l := by
            unfold Bk.picked
            rw [if_neg (by omega), Nat.add_sub_cancel, HL.out.1]
            rfl
          rw [hpk]
          exact .inr ⟨gu, rfl, HL.out.2.1, HL.out.2.2.1, HL.out.2.2.2⟩
        · obtain ⟨u, hu, hs⟩ := HS.out.2.2 k' y hy
          refine ⟨u, by rw [List.getElem?_set_ne (fun e => hkk e.symm)]; exact hu, ?_⟩
          rw [HT.out.1 k' y hy hkk]
          exact hs
  · rintro e W2 ⟨he, hS2⟩
    refine ⟨he, hS2.ll, ?_⟩
    have hT := hS2.turn hPJ hfs (rec .exhausted none)
    generalize W2.putObj (w.heap.size + 3) (.loop (rec .exhausted none)) = We at *
    have cb2 : We.cell? ⟨w.heap.size, 0, none⟩ = some (ptr b) := by rw [hT.b0.cell]; rfl
    have hkb : We.heap[b]? = w.heap[b]? := hT.only.block b (h.fl _ h.fb) (fun e => e.elim h.b_ne.1 (fun e => (hPS _ e).1 h.fb))
    have c1 : We.cell? ⟨b, 1, none⟩ = some (.map (some mb)) := (World.cell?_of_block (w := w) (a := ⟨b, 1, none⟩) hkb).trans h.cells.2.1
    have f1 : We.frozen? ⟨b, 1, none⟩ = false := (World.frozen?_of_block (w := w) (a := ⟨b, 1, none⟩) hkb).trans h.cells.2.2.2.2.1
    have hmm := @run_makeMap Try.prog
    have hhead := (h.head.kept hkb).alloc (.map #[] 0)
    have c1' : (We.alloc (.map #[] 0)).cell? ⟨b, 1, none⟩ = some (.map (some mb)) := by rw [hhead.cell]; rfl
    have f1' := hhead.frozen 1
    clear hhead
    obtain ⟨svi, hsc, hsl, hsv⟩ := hT.row
    have hfin := settle_dev h hT.only (fun q hq => hq.imp id fun hp => (hPS q hp).1) hsc hsl (bk := settled D.bk ps) (settled_length _ _) (fun k y hy => by
      have hk : k < D.bk.length := by
        have := (List.getElem?_eq_some_iff.1 hy).1
        rw [settled_length] at this
        exact this
      obtain ⟨x, hx⟩ : ∃ x, D.bk[k]? = some x := ⟨_, List.getElem?_eq_getElem hk⟩
      rw [settled_at _ _ _ _ hx] at hy
      cases hy
      refine ⟨rfl, ?_⟩
      obtain ⟨u, hu, hs⟩ := hsv k x hx
      refine ⟨u, hu, ?_⟩
      unfold target at hs
      by_cases hl : x.loose = []
      · rw [if_neg (by simp [hl])] at hs
        simpa [hl] using hs
      · have hm : k ∈ loosen D.bk := mem_loosen.2 ⟨hk, by rw [looseAt_get hx]; exact hl⟩
        have hci := (List.getElem?_eq_some_iff.1 (loosen_at hm)).1
        rw [if_pos ⟨hl, hci⟩] at hs
        simp only [hl, if_false]
        rw [hps k x hx hl]
        exact hs)
    have hD := hT.dd
    have hze := hT.only.size
    have hzl := (Array.getElem?_eq_some_iff.1 hT.dd).1
    have FIN := Lib.hid (And.intro hfin (And.intro hD (And.intro hze hzl)))
    have HF := Lib.hid (And.intro hPS h)
    clear hfin hD hze hzl hT hS2 hsv hsc hPS hPJ hpick hpk hps hsmall h0 hS1 h1 hwW1 hbw1 hbw hcb hcp hrec hW1 he hkb h
    gi_wp2
    have hdd : ((We.alloc (.map #[] 0)).setCell ⟨b, 1, none⟩ (.map (some We.heap.size))).heap[w.heap.size + 2]? = some (.deferred (some [])) :=
      (Below.heap_setCell _ ⟨b, 1, none⟩ _ _ (fun e : w.heap.size + 2 = b => by have := HF.out.2.fl _ HF.out.2.fb; omega)).trans ((Below.heap_alloc _ _ _ FIN.out.2.2.2).trans FIN.out.2.1)
    refine ⟨by simp, .inl ⟨_, _, rfl, run_takeDeferred hdd, ?_⟩⟩
    refine ⟨_, results_none rfl _ _ _, rfl, ?_, ?_⟩
    · refine (FIN.out.1.1.kept (fun q hq => World.putObj_heap_other ?_) (by simp [World.putObj])).widen (fun q hq => ?_) (fun q hq => ?_)
      · rcases hq with hq | hq
        · have := HF.out.2.fl q hq
          omega
        · have := FIN.out.2.2.2
          omega
      · rcases hq with hq | hq
        · exact .inl hq
        · exact .inr ⟨by have := FIN.out.2.2.1; omega, by simp [World.putObj, World.setCell]; omega⟩
      · rcases hq with hq | hq
        · have := HF.out.2.fl q hq
          have := FIN.out.2.2.1
          simp [World.putObj, World.setCell]
          omega
        · exact hq.2
    · exact (FIN.out.1.2.grown (grownBy_putObj' _ _ _) (fun q e => by cases e; exact .inr (by omega))).mono (fun q _ hq => by
        rcases hq with (rfl | hq) | hq
        · exact .inl HF.out.2.fs
        · exact .inr hq
        · exact .inl hq)
end Go.Proofs.Ytcpapdpnnlnemaa
namespace Go.Proofs.Ytcpapdpnnlnemaa
open Go.RowKit Go.Maps

/-- How many things are loose, of each block that has some. -/
def lens : List Bk → List Nat
  | [] => []
  | b :: r => if b.loose = [] then lens r else b.loose.length :: lens r

theorem lens_at : ∀ (l : List Bk) (k : Nat) (x : Bk), l[k]? = some x → x.loose ≠ [] → (lens l)[cnt l k]? = some x.loose.length
  | [], k, x, h, _ => by simp at h
  | b :: r, 0, x, h, hl => by
    simp only [List.getElem?_cons_zero, Option.some.injEq] at h
    subst h
    rw [cnt_zero, lens, if_neg hl]
    rfl
  | b :: r, k + 1, x, h, hl => by
    simp only [List.getElem?_cons_succ] at h
    rw [cnt_cons, lens]
    split
    · exact lens_at r k x h hl
    · rw [List.getElem?_cons_succ]
      exact lens_at r k x h hl

theorem settled_lens (l : List Bk) : settled l (lens l) = flushed l := by
  apply List.ext_getElem?
  intro k
  rcases h : l[k]? with _ | x
  · rw [List.getElem?_eq_none (by rw [settled_length]; exact List.getElem?_eq_none_iff.1 h), List.getElem?_eq_none (by simp [flushed]; exact List.getElem?_eq_none_iff.1 h)]
  · rw [settled_at l _ k x h]
    have : (flushed l)[k]? = some ⟨x.stands, []⟩ := by simp [flushed, h]
    rw [this]
    congr 2
    split
    · rename_i h0
      exact (Bk.stands_nil h0).symm
    · rename_i h0
      rw [lens_at l k x h h0]
      exact x.picked_all

/-- The picks, told one by one. -/
def pickAt (ps : List Int) (i m : Nat) : Nat := pickN ((ps[i]?).getD 0) m

theorem comes_at : ∀ (l : List Bk) (ps : List Int) (k : Nat) (x : Bk), l[k]? = some x → (comes l ps)[k]? = some ⟨if x.loose = [] then x.sure else x.picked (pickAt ps (cnt l k) x.loose.length), []⟩
  | [], _, k, x, h => by simp at h
  | b :: r, ps, 0, x, h => by
    simp only [List.getElem?_cons_zero, Option.some.injEq] at h
    subst h
    unfold comes pickAt
    rw [cnt_zero]
    split
    · simp
    · simp only [List.getElem?_cons_zero]
      cases ps <;> simp
  | b :: r, ps, k + 1, x, h => by
    simp only [List.getElem?_cons_succ] at h
    unfold comes
    rw [cnt_cons]
    split
    · simp only [List.getElem?_cons_succ]
      rw [comes_at r ps k x h]
      simp
    · simp only [List.getElem?_cons_succ]
      rw [comes_at r ps.tail k x h]
      unfold pickAt
      cases ps <;> simp

/-- The picks as a list of numbers, one for each block that has something loose. -/
def picksOf (l : List Bk) (ps : List Int) : List Nat := (List.range l.length).map fun k => pickAt ps k ((lens l)[k]?.getD 0)

theorem cnt_lt {l : List Bk} {k : Nat} {x : Bk} (h : l[k]? = some x) : cnt l k < l.length := by
  have hk := (List.getElem?_eq_some_iff.1 h).1
  unfold cnt
  refine Nat.lt_of_le_of_lt List.countP_le_length ?_
  rw [List.length_take]
  omega

theorem picksOf_at {l : List Bk} {ps : List Int} {k : Nat} {x : Bk} (h : l[k]? = some x) (hl : x.loose ≠ []) : ((picksOf l ps)[cnt l k]?).getD 0 = pickAt ps (cnt l k) x.loose.length := by
  unfold picksOf
  rw [List.getElem?_map, List.getElem?_range (cnt_lt h)]
  simp only [Option.map_some, Option.getD_some]
  rw [lens_at l k x h hl]
  rfl

theorem settled_picks (l : List Bk) (ps : List Int) : settled l (picksOf l ps) = comes l ps := by
  apply List.ext_getElem?
  intro k
  rcases h : l[k]? with _ | x
  · rw [List.getElem?_eq_none (by rw [settled_length]; exact List.getElem?_eq_none_iff.1 h), List.getElem?_eq_none (by rw [comes_length]; exact List.getElem?_eq_none_iff.1 h)]
  · rw [settled_at l _ k x h, comes_at l ps k x h]
    congr 2
    split
    · rfl
    · rename_i h0
      rw [picksOf_at h h0]

section
variable {w : World} {b : Nat} {D : Dv} {F : Nat → Prop}

theorem flush1_any (m : Nat) (w : World) : Calls Try.prog 51 #[.int .i64 (m : Int)] w fun e w' => e = .returned (.int .i64 (m : Int)) ∧ w = w' := by
  go_enter Try.func51, Try.ntmps51
  go_wp2
  go_ret
  exact ⟨rfl, rfl⟩

theorem settle_flush (h : Dev w b D F) (hsmall : ∀ (k : Nat) (x : Bk), D.bk[k]? = some x → x.loose.length < 4294967296) :
    Calls Try.prog 35 #[ptr b, .func (.func 51) #[] #[]] w fun e w' => e = .returned (.tuple #[]) ∧ Dev w' b ⟨flushed D.bk, D.on, D.left⟩ (Grow F w w') ∧ Only F w w' := by
  obtain ⟨sb, mb, sv, lv, Dm, h⟩ := h
  have hp : ∀ (i m : Nat) (W : World), True → 0 < m → m < 4294967296 → i < (loosen D.bk).length → Calls Try.prog 51 (#[.int .i64 (m : Int)] ++ #[]) W fun e W' => e = .returned (.int .i64 (m : Nat)) ∧ True ∧ Only (fun _ => False) W W' := fun i m W _ _ _ _ => by
    rw [Array.append_empty]
    refine (flush1_any m W).mono ?_
    rintro e w' ⟨rfl, rfl⟩
    exact ⟨rfl, trivial, Only.refl _ _⟩
  refine (settle_in 12 (Nat.le_refl _) h (gf := 51) (caps := #[]) (enters_of Try.func51 (by kernel_rfl) rfl) (fun _ m => m) (fun _ _ => True) (PS := fun _ => False) (fun _ hh => hh.elim) trivial (fun _ _ _ _ _ => trivial) (fun _ _ => Nat.le_refl _)
    hp hsmall (lens D.bk) (fun k x hx hl => by rw [lens_at D.bk k x hx hl]; rfl)).mono ?_
  rintro e w' ⟨rfl, hd, ho⟩
  rw [settled_lens] at hd
  exact ⟨rfl, hd, ho.mono fun q _ hq => hq.elim id False.elim⟩

theorem flush_nil (w : World) : Calls Try.prog 30 #[.pointer none] w fun e w' => e = .returned (err 2) ∧ w = w' := by
  go_enter Try.func30, Try.ntmps30
  go_wp2_with fail
  refine (ready_nil _).mono ?_
  rintro e w1 ⟨rfl, rfl⟩
  go_wp2
  go_ret
  exact ⟨rfl, rfl⟩

theorem flush_off (h : Dev w b D F) (ho : D.on = false) : Calls Try.prog 30 #[ptr b] w fun e w' => e = .returned (err 8) ∧ w = w' := by
  go_enter Try.func30, Try.ntmps30
  go_wp2_with fail
  refine (ready_off h ho).mono ?_
  rintro e w1 ⟨rfl, rfl⟩
  go_wp2
  go_ret
  exact ⟨rfl, rfl⟩

theorem flush_dies (h : Dev w b D F) (ho : D.on = true) (hz : D.left = 0) : Calls Try.prog 30 #[ptr b] w fun e w' => e = .returned (err 8) ∧ Dev w' b ⟨D.bk, false, D.left⟩ F ∧ Only (· = b) w w' := by
  have HO := Lib.hid (And.intro ho hz)
  clear ho hz
  go_enter Try.func30, Try.ntmps30
  go_wp2_with fail
  refine (ready_on h HO.out.1).mono ?_
  rintro e w1 ⟨rfl, rfl⟩
  go_wp2_with fail
  refine (spend_dies h HO.out.2).mono ?_
  rintro e w1 ⟨rfl, hh⟩
  go_wp2
  go_ret
  exact ⟨rfl, hh.dev h rfl⟩

/-- Two steps of one device's own. -/
theorem two_steps {w1 w2 : World} {D' : Dv} (h : Dev w b D F) (h1 : Only (· = b) w w1) (h2 : Dev w2 b D' (Grow F w1 w2)) (h3 : Only F w1 w2) : Dev w2 b D' (Grow F w w2) ∧ Only F w w2 := by
  have hb : F b := by obtain ⟨sb, mb, sv, lv, Dm, h⟩ := h; exact h.fb
  have hz1 := h1.size
  have hz2 := h3.size
  refine ⟨h2.widen (fun q hq => hq.imp id fun hq => ⟨by omega, hq.2⟩) (fun q hq => ?_), (h1.mono (fun q _ e => e ▸ hb)).trans h3⟩
  rcases hq with hq | hq
  · have := h.fl q hq
    omega
  · exact hq.2

theorem flush_ok (h : Dev w b D F) (ho : D.on = true) (hz : D.left ≠ 0) (hsmall : ∀ (k : Nat) (x : Bk), D.bk[k]? = some x → x.loose.length < 4294967296) :
    Calls Try.prog 30 #[ptr b] w fun e w' => e = .returned (err 0) ∧ Dev w' b ⟨flushed D.bk, D.on, spent D.left⟩ (Grow F w w') ∧ Only F w w' := by
  have HO := Lib.hid (And.intro ho (And.intro hz hsmall))
  clear ho hz hsmall
  go_enter Try.func30, Try.ntmps30
  go_wp2_with fail
  refine (ready_on h HO.out.1).mono ?_
  rintro e w1 ⟨rfl, rfl⟩
  go_wp2_with fail
  refine (spend_goes h HO.out.2.1).mono ?_
  rintro e w1 ⟨rfl, hh⟩
  obtain ⟨h1, o1⟩ := hh.dev h rfl
  clear hh
  go_wp2_with fail
  refine (settle_flush h1 HO.out.2.2).mono ?_
  rintro e w2 ⟨rfl, h2, o2⟩
  go_wp2
  go_ret
  exact ⟨rfl, two_steps h o1 h2 o2⟩
end
end Go.Proofs.Ytcpapdpnnlnemaa
namespace Go.Proofs.Ytcpapdpnnlnemaa
open Go.RowKit Go.Maps

/-- The value is a slice that reads as these numbers. -/
def Iv (w : World) (v : Value) (l : List Int) : Prop :=
  ∃ a cap, v = .slice a l.length cap ∧ l.length ≤ 9223372036854775807 ∧ (a = none → l = []) ∧ (∀ ad, a = some ad → ∀ (i : Nat) (u : Int), l[i]? = some u → w.cell? (ad.add i) = some (.int .i64 u)) ∧ ∀ u ∈ l, -9223372036854775808 ≤ u ∧ u ≤ 9223372036854775807

theorem Iv.nil (w : World) : Iv w nilSl [] := ⟨none, 0, rfl, by simp, fun _ => rfl, (fun _ h => by cases h), (fun u h => by cases h)⟩
theorem Iv.shape {w : World} {v : Value} {l : List Int} (h : Iv w v l) : ∃ a cap, v = .slice a l.length cap := let ⟨a, cap, e, _⟩ := h; ⟨a, cap, e⟩
theorem Iv.kept {w w' : World} {v : Value} {l : List Int} (h : Iv w v l) (hk : ∀ q, v.ownBlock = some q → l ≠ [] → q < w.heap.size → w'.heap[q]? = w.heap[q]?) : Iv w' v l := by
  obtain ⟨a, cap, rfl, h1, h2, h3, h4⟩ := h
  refine ⟨a, cap, rfl, h1, h2, fun ad had i u hu => ?_, h4⟩
  subst had
  have hc := h3 _ rfl i u hu
  have hblk : (ad.add i).block = ad.block := by
    unfold Addr.add
    split <;> rfl
  have hlt := World.block_lt_of_cell? w _ hc
  exact (World.cell?_of_block (w := w) (a := ad.add i) (by rw [hblk] at hlt ⊢; exact hk _ rfl (fun e => by rw [e] at hu; simp at hu) hlt)).trans hc
theorem Iv.open {w : World} {v : Value} {l : List Int} (h : Iv w v l) {i : Nat} {u : Int} (hu : l[i]? = some u) : ∃ g o cap, v = .slice (some ⟨g, o, none⟩) l.length cap ∧ w.cell? ⟨g, o + i, none⟩ = some (.int .i64 u) ∧ -9223372036854775808 ≤ u ∧ u ≤ 9223372036854775807 := by
  obtain ⟨a, cap, rfl, h1, h2, h3, h4⟩ := h
  rcases a with _ | ⟨g, o, s⟩
  · rw [h2 rfl] at hu
    simp at hu
  · have hc := h3 _ rfl i u hu
    have hlt := (List.getElem?_eq_some_iff.1 hu).1
    have hs : s = none := by simpa [Addr.add] using World.cell?_spot (h3 _ rfl 0 l[0] (List.getElem?_eq_getElem (by omega)))
    subst hs
    rw [Addr.add_lit] at hc
    exact ⟨g, o, cap, rfl, hc, h4 u (List.mem_of_getElem? hu)⟩

/-- What the closure of On finds behind i rounds. -/
def OnJ (nb pb : Nat) (v : Value) (l : List Int) (i : Nat) (w : World) : Prop :=
  Cel w nb [.int .i64 ((min i l.length : Nat) : Int)] 3 ∧ Cel w pb [v] 35 ∧ Iv w v l

set_option maxRecDepth 100000 in
theorem on1_any {w : World} {nb pb : Nat} {v : Value} {l : List Int} {i m : Nat} (h : OnJ nb pb v l i w) (hm : m < 4294967296) (hn : nb ≠ pb) (hv : l ≠ [] → v.ownBlock ≠ some nb) :
    Calls Try.prog 36 #[.int .i64 (m : Int), ptr nb, ptr pb] w fun e w' => e = .returned (.int .i64 (pickAt l i m : Nat)) ∧ OnJ nb pb v l (i + 1) w' ∧ Only (· = nb) w w' := by
  obtain ⟨hc, hp, hl⟩ := h
  obtain ⟨a, cap, rfl⟩ := hl.shape
  have c1 : w.cell? ⟨nb, 0, none⟩ = some (.int .i64 ((min i l.length : Nat) : Int)) := by rw [hc.cell]; rfl
  have c2 : w.cell? ⟨pb, 0, none⟩ = some (.slice a l.length cap) := by rw [hp.cell]; rfl
  have f1 := hc.frozen 0
  have hlen : l.length ≤ 9223372036854775807 := by
    obtain ⟨_, _, _, h1, _⟩ := hl
    exact h1
  by_cases hi : i < l.length
  · rw [Nat.min_eq_left (by omega)] at c1
    obtain ⟨p, hpp⟩ : ∃ p, l[i]? = some p := ⟨_, List.getElem?_eq_getElem hi⟩
    obtain ⟨g, o, cap', e, hcell, hlo, hhi⟩ := hl.open hpp
    simp only [Value.slice.injEq] at e
    obtain ⟨rfl, -, rfl⟩ := e
    have hq : (((i : Int)) == (l.length : Int)) = false := by rw [beq_eq_false_iff_ne]; omega
    have hil : ((i : Int) < (l.length : Int)) := by omega
    have hgn : g ≠ nb := fun e => hv (fun e => by rw [e] at hi; simp at hi) (by rw [e]; rfl)
    have c3 : (w.setCell ⟨nb, 0, none⟩ (.int .i64 ((i : Int) + 1))).cell? ⟨g, o + i, none⟩ = some (.int .i64 p) := (World.cell?_setCell_other w _ _ _ (fun e => hgn (by have := congrArg Addr.block e; first | exact this | exact this.symm))).trans hcell
    have c4 : (w.setCell ⟨nb, 0, none⟩ (.int .i64 ((i : Int) + 1))).cell? ⟨pb, 0, none⟩ = some (.slice (some ⟨g, o, none⟩) l.length cap) := (World.cell?_setCell_other w _ _ _ (fun e => hn (by have := congrArg Addr.block e; first | exact this | exact this.symm))).trans c2
    have c5 : (w.setCell ⟨nb, 0, none⟩ (.int .i64 ((i : Int) + 1))).cell? ⟨nb, 0, none⟩ = some (.int .i64 ((i : Int) + 1)) := by
      rw [(hc.set 0 _).cell]
      rfl
    have hfin : pickAt l i m = pickN p m := by
      unfold pickAt
      rw [hpp]
      rfl
    have hon : OnJ nb pb (.slice (some ⟨g, o, none⟩) l.length cap) l (i + 1) (w.setCell ⟨nb, 0, none⟩ (.int .i64 ((i : Int) + 1))) := by
      refine ⟨?_, hp.kept (Below.heap_setCell _ _ _ _ (fun e => hn e.symm)), hl.kept fun q hq _ _ => Below.heap_setCell _ _ _ _ (fun e => by
        cases hq
        exact hgn e)⟩
      have := hc.set 0 (.int .i64 ((i : Int) + 1))
      rw [Nat.min_eq_left (by omega)]
      exact this
    have ho : Only (· = nb) w (w.setCell ⟨nb, 0, none⟩ (.int .i64 ((i : Int) + 1))) := (Only.refl (· = nb) w).setCell (p := ⟨nb, 0, none⟩) (.inl rfl) _
    have hpk := pickN_int p m
    rw [hfin]
    have HF := Lib.hid (And.intro hon (And.intro ho hpk))
    clear hon ho hpk hfin hcell hpp hl hc hp hv
    go_enter Try.func36, Try.ntmps36
    go_wp2
    go_ret
    exact ⟨by rw [HF.out.2.2]; rfl, HF.out.1, HF.out.2.1⟩
  · rw [Nat.min_eq_right (by omega)] at c1
    have hfin : pickAt l i m = 0 := by
      unfold pickAt
      rw [List.getElem?_eq_none (by omega)]
      exact pickN_zero m
    have hon : OnJ nb pb (.slice a l.length cap) l (i + 1) w := by
      refine ⟨?_, hp, hl⟩
      rw [Nat.min_eq_right (by omega)] at hc ⊢
      exact hc
    rw [hfin]
    have HF := Lib.hid hon
    clear hon hfin hc hp hl hv hi
    go_enter Try.func36, Try.ntmps36
    go_wp2
    go_ret
    exact ⟨rfl, HF.out, Only.refl _ _⟩

section
variable {w : World} {b : Nat} {D : Dv} {F : Nat → Prop}

theorem settle_on (h : Dev w b D F) (hsmall : ∀ (k : Nat) (x : Bk), D.bk[k]? = some x → x.loose.length < 4294967296) {v : Value} {l : List Int} {nb pb : Nat} (hj : OnJ nb pb v l 0 w) (hn : nb ≠ pb) (hnb : ¬ F nb) (hpb : ¬ F pb)
    (hoff : l ≠ [] → ∀ q, v.ownBlock = some q → ¬ F q) (hvn : l ≠ [] → v.ownBlock ≠ some nb) :
    Calls Try.prog 35 #[ptr b, .func (.func 36) #[] #[ptr nb, ptr pb]] w fun e w' => e = .returned (.tuple #[]) ∧ Dev w' b ⟨comes D.bk l, D.on, D.left⟩ (Grow F w w') ∧ Only (fun q => F q ∨ q = nb) w w' := by
  obtain ⟨sb, mb, sv, lv, Dm, h⟩ := h
  have hlt : ∀ q, v.ownBlock = some q → l ≠ [] → q < w.heap.size := fun q hq hl => by
    obtain ⟨_, _, hI⟩ := hj
    obtain ⟨u, hu⟩ : ∃ u, l[0]? = some u := ⟨_, List.getElem?_eq_getElem (List.length_pos_iff.2 hl)⟩
    obtain ⟨g, o, cap, rfl, hc, _⟩ := hI.open hu
    cases hq
    exact World.block_lt_of_cell? w _ hc
  have hp : ∀ (i m : Nat) (W : World), OnJ nb pb v l i W → 0 < m → m < 4294967296 → i < (loosen D.bk).length → Calls Try.prog 36 (#[.int .i64 (m : Int)] ++ #[ptr nb, ptr pb]) W fun e W' => e = .returned (.int .i64 (pickAt l i m : Nat)) ∧ OnJ nb pb v l (i + 1) W' ∧ Only (· = nb) W W' := fun i m W hJ _ hm _ =>
    on1_any hJ hm hn hvn
  refine (settle_in 12 (Nat.le_refl _) h (gf := 36) (caps := #[ptr nb, ptr pb]) (enters_of Try.func36 (by kernel_rfl) rfl) (pickAt l) (OnJ nb pb v l) (PS := (· = nb)) (fun q e => ⟨by rw [e]; exact hnb, by rw [e]; exact hj.1.lt⟩) hj
    (fun i W W' hW hk => ⟨hW.1.kept (hk _ hj.1.lt (fun e => hnb (e ▸ h.fs))), hW.2.1.kept (hk _ hj.2.1.lt (fun e => hpb (e ▸ h.fs))), hW.2.2.kept fun q hq hl _ => hk q (hlt q hq hl) (fun e => hoff hl q hq (e ▸ h.fs))⟩)
    (fun i m => pickN_le _ _) hp hsmall (picksOf D.bk l) (fun k x hx hl => picksOf_at hx hl)).mono ?_
  rintro e w' ⟨rfl, hd, ho⟩
  rw [settled_picks] at hd
  exact ⟨rfl, hd, ho⟩

theorem on_nil {v : Value} {l : List Int} (w : World) (hv : Iv w v l) : Calls Try.prog 17 #[.pointer none, v] w fun e w' => e = .returned (err 2) ∧ Below w.heap.size w w' := by
  obtain ⟨a, cap, rfl⟩ := hv.shape
  go_enter Try.func17, Try.ntmps17
  go_wp2
  go_ret
  exact ⟨rfl, (Below.refl _ _).alloc (Nat.le_refl _) _⟩

theorem on_on (h : Dev w b D F) (ho : D.on = true) {v : Value} {l : List Int} (hv : Iv w v l) : Calls Try.prog 17 #[ptr b, v] w fun e w' => e = .returned (err 3) ∧ Below w.heap.size w w' := by
  obtain ⟨a, cap, rfl⟩ := hv.shape
  obtain ⟨sb, mb, sv, lv, Dm, h⟩ := h
  have c2 := (h.head.alloc (.cells #[.slice a l.length cap] 35)).cell 2
  have hb := h.fl _ h.fb
  rw [ho] at c2
  clear h ho hv
  go_enter Try.func17, Try.ntmps17
  go_wp2
  go_ret
  exact ⟨rfl, (Below.refl _ _).alloc (Nat.le_refl _) _⟩

set_option maxRecDepth 100000 in
theorem on_ok (h : Dev w b D F) (ho : D.on = false) (hsmall : ∀ (k : Nat) (x : Bk), D.bk[k]? = some x → x.loose.length < 4294967296) {v : Value} {l : List Int} (hv : Iv w v l) (hoff : l ≠ [] → ∀ q, v.ownBlock = some q → ¬ F q) :
    Calls Try.prog 17 #[ptr b, v] w fun e w' => e = .returned (err 0) ∧ Dev w' b ⟨comes D.bk l, true, -1⟩ (Grow F w w') ∧ Only F w w' := by
  obtain ⟨a, cap, rfl⟩ := hv.shape
  have h0 := h
  obtain ⟨sb, mb, sv, lv, Dm, h⟩ := h
  have c2 := (h.head.alloc (.cells #[.slice a l.length cap] 35)).cell 2
  have hb := h.fl _ h.fb
  have hbf := h.fb
  rw [ho] at c2
  have hlt : ∀ q, (Value.slice a l.length cap).ownBlock = some q → l ≠ [] → q < w.heap.size := fun q hq hl => by
    obtain ⟨u, hu⟩ : ∃ u, l[0]? = some u := ⟨_, List.getElem?_eq_getElem (List.length_pos_iff.2 hl)⟩
    obtain ⟨g, o, cap', e, hc, _⟩ := hv.open hu
    simp only [Value.slice.injEq] at e
    obtain ⟨rfl, -, -⟩ := e
    cases hq
    exact World.block_lt_of_cell? w _ hc
  have z1 : (w.alloc (.cells #[.slice a l.length cap] 35)).heap.size = w.heap.size + 1 := by simp
  have hbw : Below w.heap.size w ((w.alloc (.cells #[.slice a l.length cap] 35)).alloc (.cells #[.int .i64 0] 3)) := ((Below.refl _ _).alloc (Nat.le_refl _) _).alloc (by simp) _
  have hj : OnJ (w.heap.size + 1) w.heap.size (.slice a l.length cap) l 0 ((w.alloc (.cells #[.slice a l.length cap] 35)).alloc (.cells #[.int .i64 0] 3)) := by
    refine ⟨?_, (Cel.new w #[.slice a l.length cap] 35).alloc _, hv.kept fun q _ _ hq => hbw.block q hq⟩
    have := Cel.new (w.alloc (.cells #[.slice a l.length cap] 35)) #[.int .i64 0] 3
    rw [z1] at this
    rw [Nat.zero_min]
    exact this
  have hfl := h0.fl
  have hS := settle_on (h0.below hbw) hsmall hj (by omega) (fun hf => by have := hfl _ hf; omega) (fun hf => by have := hfl _ hf; omega) hoff (fun hl e => by have := hlt _ e hl; omega)
  have HO := Lib.hid (And.intro hS (And.intro hbw h0.fl))
  clear ho hsmall hoff hS hj hlt z1 hbw hfl hv h h0
  go_enter Try.func17, Try.ntmps17
  go_wp2_with fail
  refine HO.out.1.mono ?_
  rintro e w2 ⟨rfl, hd, ho2⟩
  have hh2 := (headed_cell2 hd true).dev hd rfl
  have hh3 := (headed_cell3 hh2.1 (-1) (by omega) (by omega)).dev hh2.1 rfl
  have hc := hd
  obtain ⟨sb2, mb2, sv2, lv2, Dm2, hc⟩ := hc
  have k2 := hc.cells.2.2.1
  have g2 := hc.cells.2.2.2.2.2.1
  have hhead := hc.head.set 2 (.bool true)
  have k3 := hhead.cell 3
  have g3 := hhead.frozen 3
  have HF := Lib.hid (And.intro hh2 (And.intro hh3 (And.intro ho2 hc.fl)))
  clear hh2 hh3 hc hd hhead ho2
  go_wp2
  go_ret
  have hz := HO.out.2.1.size
  have hz2 := HF.out.2.2.1.size
  refine ⟨rfl, HF.out.2.1.1.widen (fun q hq => ?_) (fun q hq => ?_), ?_⟩
  · exact hq.imp id fun hq' => ⟨by omega, HF.out.2.1.1.fl q hq⟩
  · have s1 := HF.out.1.2.size
    have s2 := HF.out.2.1.2.size
    rcases hq with hq | hq
    · have := HO.out.2.2 q hq
      omega
    · exact hq.2
  · have hbF : F b := hbf
    exact (((Only.of_below HO.out.2.1 F).then HF.out.2.2.1 (fun q hq => hq.imp id fun e => by omega)).then HF.out.1.2 (fun q e => .inl (e ▸ hbF))).then HF.out.2.1.2 (fun q e => .inl (e ▸ hbF))
end
end Go.Proofs.Ytcpapdpnnlnemaa
namespace Go.Proofs.Ytcpapdpnnlnemaa
open Go.RowKit Go.Maps

theorem row_info0 : (Try.prog.info? 33).map (fun i => (i.zero, i.size, i.bytes)) = some (some nilSl, 1, 24) := by kernel_rfl

theorem new_no (n : Int) (w : World) (hn : n < 1 ∨ 4096 < n) : Calls Try.prog 9 #[.int .i64 n] w fun e w' => e = .returned (.tuple #[.pointer none, err 1]) ∧ w = w' := by
  by_cases h0 : n < 1
  · clear hn
    go_enter Try.func9, Try.ntmps9
    go_wp2
    go_ret2
    exact ⟨rfl, rfl⟩
  · have h1 : 4096 < n := by omega
    have hd : decide (n < 1) = false := by simp; omega
    clear hn h0
    go_enter Try.func9, Try.ntmps9
    go_wp2
    go_ret2
    exact ⟨rfl, rfl⟩

/-- A new device is answered. -/
def News (w : World) (n : Nat) (e : Ending) (w' : World) : Prop :=
  ∃ b, e = .returned (.tuple #[ptr b, err 0]) ∧ Dev w' b (fresh n) (fun q => w.heap.size ≤ q ∧ q < w'.heap.size) ∧ Below w.heap.size w w'

theorem made_rows (n : Nat) : (madeCells nilSl.cells (n * 1)).toList = List.replicate n nilSl := by
  apply List.ext_getElem?
  intro j
  by_cases hj : j < n
  · simp [madeCells, hj, Value.cells, Nat.mod_one]
  · simp [madeCells, hj]

theorem fresh_get {n k : Nat} {x : Bk} (h : (fresh n).bk[k]? = some x) : x = ⟨noughts, []⟩ ∧ k < n := by
  have h1 : (fresh n).bk = List.replicate n ⟨noughts, []⟩ := rfl
  rw [h1, List.getElem?_replicate] at h
  split at h
  · simp only [Option.some.injEq] at h
    exact ⟨h.symm, by assumption⟩
  · cases h

theorem new_dev {w w1 : World} {n : Nat} (h1 : 1 ≤ n) (h2 : n ≤ 4096) (c1 : Cel w1 w.heap.size (List.replicate n nilSl) 33) (hz : w.heap.size < w1.heap.size) :
    Dev ((w1.alloc (.map #[] 0)).alloc (.cells #[.slice (some ⟨w.heap.size, 0, none⟩) n n, .map (some w1.heap.size), .bool true, .int .i64 (-1)] 60)) (w1.heap.size + 1) (fresh n)
      (fun q => w.heap.size ≤ q ∧ q < w1.heap.size + 2) := by
  have hm := World.ownsMap_made (H := Value) w1 Try.prog 3 rawR
  have hlen : (fresh n).bk.length = n := List.length_replicate
  have z2 : (w1.alloc (.map #[] 0)).heap.size = w1.heap.size + 1 := by simp
  have hh := Cel.new (w1.alloc (.map #[] 0)) #[.slice (some ⟨w.heap.size, 0, none⟩) n n, .map (some w1.heap.size), .bool true, .int .i64 (-1)] 60
  rw [z2] at hh
  refine ⟨w.heap.size, w1.heap.size, List.replicate n nilSl, fun _ => nilSl, .map [], {
    head := by rw [hlen]; exact hh
    rows := (c1.alloc _).alloc _
    svl := by rw [hlen, List.length_replicate]
    sure := fun k x hx => by
      obtain ⟨rfl, hk⟩ := fresh_get hx
      exact ⟨nilSl, by rw [List.getElem?_replicate, if_pos hk], .inl ⟨rfl, rfl⟩⟩
    map := ((hm.mono (by omega : 0 ≤ 4096)).alloc _)
    keys := fun k x hx => by
      obtain ⟨rfl, hk⟩ := fresh_get hx
      exact ⟨rfl, rfl⟩
    only := fun kl h => by cases h
    loose := fun k x hx => by
      obtain ⟨rfl, hk⟩ := fresh_get hx
      exact RowF.nil _ _
    apart := fun j k _ _ _ => .inl rfl
    off := fun k _ h => by cases h
    fb := ⟨by omega, by omega⟩
    fs := ⟨by omega, by omega⟩
    fm := ⟨by omega, by omega⟩
    fl := fun g hg => by
      have := hg.2
      simp only [World.size_alloc]
      omega
    pos := by rw [hlen]; exact h1
    few := by rw [hlen]; exact h2
    low := by show (-1 : Int) ≤ -1; omega
    high := by show (-1 : Int) ≤ _; omega }⟩

theorem new_ok (n : Nat) (w : World) (h1 : 1 ≤ n) (h2 : n ≤ 4096) : Calls Try.prog 9 #[.int .i64 (n : Int)] w (News w n) := by
  obtain ⟨i0, hi, hz0, hz1, hz2⟩ := info_parts row_info0
  obtain ⟨w1, hmk, o1, g1⟩ := run_make_full (P := Try.prog) w w.heap.size 57 33 i0 nilSl 1 Try.underlying57 hi hz0 hz1 .i64 .i64 n (by rw [hz2]; omega) (by unfold maxLen; omega) (Nat.le_refl _)
  have c1 : Cel w1 w.heap.size (List.replicate n nilSl) 33 := by
    rcases o1.2 with ⟨h, _⟩ | ⟨g, cap, cur, hv, _, hg, _, _, hs, ht⟩
    · cases h
    · simp only [Value.slice.injEq, Option.some.injEq, Addr.mk.injEq] at hv
      obtain ⟨⟨rfl, _⟩, _, rfl⟩ := hv
      rw [List.take_of_length_le (by simp [hs])] at ht
      rw [made_rows] at ht
      unfold Cel
      rw [← ht]
      simpa using hg
  have hb1 : Below w.heap.size w w1 := (Below.refl _ _).grown g1 (Nat.le_refl _) (fun _ h => by cases h)
  have hsz := c1.lt
  have hd := new_dev h1 h2 c1 hsz
  have hmm := @run_makeMap Try.prog
  have t1 : decide ((n : Int) < 1) = false := by simp; omega
  have t2 : decide ((4096 : Int) < (n : Int)) = false := by simp; omega
  have H := Lib.hid (And.intro hd (And.intro hb1 hsz))
  clear hd o1 g1 c1 hb1 hi hz0 hz1 hz2 h1 h2 hsz
  go_enter Try.func9, Try.ntmps9
  go_wp2
  go_ret2
  refine ⟨_, rfl, ?_, ?_⟩
  · have := H.out.1
    simpa using this
  · exact (H.out.2.1.alloc H.out.2.1.size _).alloc (by have := H.out.2.1.size; simp; omega) _
end Go.Proofs.Ytcpapdpnnlnemaa
namespace Go.Proofs.Ytcpapdpnnlnemaa
open Go.RowKit Go.Maps

/-- A device of this content, in memory that was laid since w0. -/
def Mine (w0 w : World) (b : Nat) (D : Dv) : Prop := ∃ F, Dev w b D F ∧ (∀ q, F q → w0.heap.size ≤ q) ∧ Below w0.heap.size w0 w
/-- .. and beside it a slice of bytes that lies elsewhere. -/
def MineB (w0 w : World) (b : Nat) (D : Dv) (v : Value) (l : Bytes) : Prop := ∃ F, Dev w b D F ∧ (∀ q, F q → w0.heap.size ≤ q) ∧ Below w0.heap.size w0 w ∧ Bs w v l ∧ ∀ q, v.ownBlock = some q → ¬ F q
/-- .. and beside it a slice of numbers that lies elsewhere. -/
def MineI (w0 w : World) (b : Nat) (D : Dv) (v : Value) (l : List Int) : Prop := ∃ F, Dev w b D F ∧ (∀ q, F q → w0.heap.size ≤ q) ∧ Below w0.heap.size w0 w ∧ Iv w v l ∧ (l ≠ [] → ∀ q, v.ownBlock = some q → ¬ F q)

/-- Fewer than 2^32 things are loose in each block. -/
def Small (D : Dv) : Prop := ∀ (k : Nat) (x : Bk), D.bk[k]? = some x → x.loose.length < 4294967296

section
variable {w0 w : World} {b : Nat} {D : Dv} {v : Value} {l : Bytes}

theorem MineB.mine (h : MineB w0 w b D v l) : Mine w0 w b D := let ⟨F, h1, h2, h3, _⟩ := h; ⟨F, h1, h2, h3⟩
theorem Mine.under (h : Mine w0 w b D) : Below w0.heap.size w0 w := let ⟨_, _, _, h3⟩ := h; h3
theorem Mine.later {w' : World} (h : Mine w0 w b D) (hb : Below w.heap.size w w') : Mine w0 w' b D := by
  obtain ⟨F, h1, h2, h3⟩ := h
  exact ⟨F, h1.below hb, h2, h3.trans (hb.mono h3.size)⟩
theorem MineB.later {w' : World} (h : MineB w0 w b D v l) (hb : Below w.heap.size w w') : MineB w0 w' b D v l := by
  obtain ⟨F, h1, h2, h3, h4, h5⟩ := h
  exact ⟨F, h1.below hb, h2, h3.trans (hb.mono h3.size), h4.below hb, h5⟩
theorem Mine.len (h : Mine w0 w b D) : 0 < D.bk.length ∧ D.bk.length ≤ 4096 := by
  obtain ⟨F, ⟨sb, mb, sv, lv, Dm, h1⟩, _⟩ := h
  exact ⟨h1.pos, h1.few⟩

/-- What was made behind it lies elsewhere. -/
theorem Mine.with {w' : World} (h : Mine w0 w b D) {g : Nat} (hb : Below w.heap.size w w') (hc : Cel w' g (bvs l) 5) (hl : l.length = 512) (hg : w.heap.size ≤ g) : MineB w0 w' b D (.slice (some ⟨g, 0, none⟩) 512 512) l := by
  obtain ⟨F, h1, h2, h3⟩ := h
  refine ⟨F, h1.below hb, h2, h3.trans (hb.mono h3.size), Blk.bs ⟨g, rfl, hc, hl⟩, fun q e hq => ?_⟩
  have e' : g = q := Option.some.inj e
  subst e'
  have := h1.fl _ hq
  omega

/-- What was there ahead of it lies elsewhere. -/
theorem Mine.old (h : Mine w0 w b D) {l : List Int} (hv : Iv w0 v l) : MineI w0 w b D v l := by
  obtain ⟨F, h1, h2, h3⟩ := h
  refine ⟨F, h1, h2, h3, hv.kept fun q _ _ hq => h3.block q hq, fun hl q e hf => ?_⟩
  obtain ⟨u, hu⟩ : ∃ u, l[0]? = some u := ⟨_, List.getElem?_eq_getElem (List.length_pos_iff.2 hl)⟩
  obtain ⟨g, o, cap, rfl, hc, _⟩ := hv.open hu
  have e' : g = q := Option.some.inj e
  subst e'
  have := h2 g hf
  have := World.block_lt_of_cell? w0 _ hc
  simp only at this
  omega
theorem Mine.oldB (h : Mine w0 w b D) (hv : Bs w0 v l) (hq : ∀ q, v.ownBlock = some q → q < w0.heap.size) : MineB w0 w b D v l := by
  obtain ⟨F, h1, h2, h3⟩ := h
  exact ⟨F, h1, h2, h3, hv.below h3, fun q e hf => by have := h2 q hf; have := hq q e; omega⟩
theorem Mine.noI (h : Mine w0 w b D) : MineI w0 w b D nilSl [] := by
  obtain ⟨F, h1, h2, h3⟩ := h
  exact ⟨F, h1, h2, h3, Iv.nil _, fun hl => absurd rfl hl⟩

/-- A literal slice of numbers, laid behind it. -/
theorem Mine.lit (h : Mine w0 w b D) (l : List Int) (hl : l.length ≤ 1000) (hr : ∀ u ∈ l, -9223372036854775808 ≤ u ∧ u ≤ 9223372036854775807) {n : Nat} (hn : n = l.length) {cs : Array Value} (hcs : cs = (l.map (Value.int .i64)).toArray) :
    MineI w0 (w.alloc (.cells cs 3)) b D (.slice (some ⟨w.heap.size, 0, none⟩) n n) l := by
  subst hn
  subst hcs
  have hb : Below w.heap.size w (w.alloc (.cells (l.map (Value.int .i64)).toArray 3)) := (Below.refl _ _).alloc (Nat.le_refl _) _
  obtain ⟨F, h1, h2, h3⟩ := h
  refine ⟨F, h1.below hb, h2, h3.trans (hb.mono h3.size), ⟨some ⟨w.heap.size, 0, none⟩, _, rfl, by omega, (fun e => by cases e), fun ad had i u hu => ?_, hr⟩, fun _ q e hf => ?_⟩
  · cases had
    rw [Addr.add_lit, Nat.zero_add, (Cel.new w _ _).cell]
    simp [hu]
  · have e' : w.heap.size = q := Option.some.inj e
    subst e'
    have := h1.fl _ hf
    omega

theorem m_new (n : Nat) (w : World) (h1 : 1 ≤ n) (h2 : n ≤ 4096) : Calls Try.prog 9 #[.int .i64 (n : Int)] w fun e w' => ∃ b, e = .returned (.tuple #[ptr b, err 0]) ∧ Mine w w' b (fresh n) := by
  refine (new_ok n w h1 h2).mono ?_
  rintro e w' ⟨b, rfl, hd, hb⟩
  exact ⟨b, rfl, _, hd, fun q hq => hq.1, hb⟩

theorem m_write (h : MineB w0 w b D v l) (hl : l.length = 512) (ho : D.on = true) (hz : D.left ≠ 0) {k : Nat} (hk : k < D.bk.length) (hs : Small D) :
    Calls Try.prog 19 #[ptr b, .int .i64 (k : Int), v] w fun e w' => e = .returned (err 0) ∧ Mine w0 w' b ⟨wrote D.bk k l, D.on, spent D.left⟩ := by
  obtain ⟨F, h1, h2, h3, h4, h5⟩ := h
  obtain ⟨x, hx⟩ : ∃ x, D.bk[k]? = some x := ⟨_, List.getElem?_eq_getElem hk⟩
  refine (write_ok h1 ho hz hx (hs k x hx) h4 hl h5).mono ?_
  rintro e w' ⟨rfl, hd, hon⟩
  have hz1 := h3.size
  exact ⟨rfl, _, hd, fun q hq => hq.elim (h2 q) (fun hq => by omega), h3.trans (hon.below hz1 h2)⟩

theorem only_b {w' : World} {F : Nat → Prop} {D' : Dv} (h : Dev w b D F) (h2 : ∀ q, F q → w0.heap.size ≤ q) (h3 : Below w0.heap.size w0 w) (hd : Dev w' b D' F) (ho : Only (· = b) w w') : Mine w0 w' b D' := by
  obtain ⟨sb, mb, sv, lv, Dm, hh⟩ := h
  exact ⟨F, hd, h2, h3.trans (ho.below h3.size fun q e => e ▸ h2 b hh.fb)⟩

theorem m_write_dies (h : MineB w0 w b D v l) (hl : l.length = 512) (ho : D.on = true) (hz : D.left = 0) {k : Nat} (hk : k < D.bk.length) :
    Calls Try.prog 19 #[ptr b, .int .i64 (k : Int), v] w fun e w' => e = .returned (err 8) ∧ Mine w0 w' b ⟨D.bk, false, D.left⟩ := by
  obtain ⟨F, h1, h2, h3, h4, h5⟩ := h
  refine (write_dies h1 ho hz k hk h4 hl).mono ?_
  rintro e w' ⟨rfl, hd, hon⟩
  exact ⟨rfl, only_b h1 h2 h3 hd hon⟩

theorem m_write_off (h : Mine w0 w b D) (ho : D.on = false) (k : Int) (v : Value) : Calls Try.prog 19 #[ptr b, .int .i64 k, v] w fun e w' => e = .returned (err 8) ∧ w = w' := by
  obtain ⟨F, h1, h2, h3⟩ := h
  exact write_off h1 ho k v

theorem m_write_no (h : Mine w0 w b D) (ho : D.on = true) (k : Int) (hk : k < 0 ∨ (D.bk.length : Int) ≤ k) (v : Value) : Calls Try.prog 19 #[ptr b, .int .i64 k, v] w fun e w' => e = .returned (err 1) ∧ w = w' := by
  obtain ⟨F, h1, h2, h3⟩ := h
  exact write_no h1 ho k hk v

theorem m_flush (h : Mine w0 w b D) (ho : D.on = true) (hz : D.left ≠ 0) (hs : Small D) : Calls Try.prog 30 #[ptr b] w fun e w' => e = .returned (err 0) ∧ Mine w0 w' b ⟨flushed D.bk, D.on, spent D.left⟩ := by
  obtain ⟨F, h1, h2, h3⟩ := h
  refine (flush_ok h1 ho hz hs).mono ?_
  rintro e w' ⟨rfl, hd, hon⟩
  have hz1 := h3.size
  exact ⟨rfl, _, hd, fun q hq => hq.elim (h2 q) (fun hq => by omega), h3.trans (hon.below hz1 h2)⟩

theorem m_flush_dies (h : Mine w0 w b D) (ho : D.on = true) (hz : D.left = 0) : Calls Try.prog 30 #[ptr b] w fun e w' => e = .returned (err 8) ∧ Mine w0 w' b ⟨D.bk, false, D.left⟩ := by
  obtain ⟨F, h1, h2, h3⟩ := h
  refine (flush_dies h1 ho hz).mono ?_
  rintro e w' ⟨rfl, hd, hon⟩
  exact ⟨rfl, only_b h1 h2 h3 hd hon⟩

theorem m_flush_off (h : Mine w0 w b D) (ho : D.on = false) : Calls Try.prog 30 #[ptr b] w fun e w' => e = .returned (err 8) ∧ w = w' := by
  obtain ⟨F, h1, h2, h3⟩ := h
  exact flush_off h1 ho

theorem m_off (h : Mine w0 w b D) (ho : D.on = true) : Calls Try.prog 15 #[ptr b] w fun e w' => e = .returned (err 0) ∧ Mine w0 w' b ⟨D.bk, false, D.left⟩ := by
  obtain ⟨F, h1, h2, h3⟩ := h
  refine (off_on h1 ho).mono ?_
  rintro e w' ⟨rfl, hd, hon⟩
  exact ⟨rfl, only_b h1 h2 h3 hd hon⟩

theorem m_arm (h : Mine w0 w b D) (ho : D.on = true) (n : Int) (hn : n ≤ 9223372036854775807) : Calls Try.prog 13 #[ptr b, .int .i64 n] w fun e w' => e = .returned (err 0) ∧ Mine w0 w' b ⟨D.bk, D.on, max n (-1)⟩ := by
  obtain ⟨F, h1, h2, h3⟩ := h
  refine (arm_on h1 ho n hn).mono ?_
  rintro e w' ⟨rfl, hd, hon⟩
  exact ⟨rfl, only_b h1 h2 h3 hd hon⟩

theorem m_on {l : List Int} (h : MineI w0 w b D v l) (ho : D.on = false) (hs : Small D) : Calls Try.prog 17 #[ptr b, v] w fun e w' => e = .returned (err 0) ∧ Mine w0 w' b ⟨comes D.bk l, true, -1⟩ := by
  obtain ⟨F, h1, h2, h3, h4, h5⟩ := h
  refine (on_ok h1 ho hs h4 h5).mono ?_
  rintro e w' ⟨rfl, hd, hon⟩
  have hz1 := h3.size
  exact ⟨rfl, _, hd, fun q hq => hq.elim (h2 q) (fun hq => by omega), h3.trans (hon.below hz1 h2)⟩

theorem m_size (h : Mine w0 w b D) : Calls Try.prog 26 #[ptr b] w fun e w' => e = .returned (.int .i64 (D.bk.length : Nat)) ∧ w = w' := by
  obtain ⟨F, h1, _⟩ := h
  exact size_any h1
theorem m_read_off (h : Mine w0 w b D) (ho : D.on = false) (k : Int) : Calls Try.prog 24 #[ptr b, .int .i64 k] w fun e w' => e = .returned (.tuple #[nilSl, err 8]) ∧ w = w' := by
  obtain ⟨F, h1, _⟩ := h
  exact read_off h1 ho k
theorem m_read (h : Mine w0 w b D) (ho : D.on = true) {k : Nat} {x : Bk} (hx : D.bk[k]? = some x) : Calls Try.prog 24 #[ptr b, .int .i64 (k : Int)] w (Reads w x.stands) := by
  obtain ⟨F, h1, _⟩ := h
  exact read_ok h1 ho hx

theorem str_ne {l m : Bytes} (h : l ≠ m) : (l == m) = false := by
  rw [beq_eq_false_iff_ne]
  exact h

/-- What stands in a block is 512 bytes. -/
theorem stands_len {F : Nat → Prop} (h : Dev w b D F) {k : Nat} {x : Bk} (hx : D.bk[k]? = some x) : x.stands.length = 512 := by
  obtain ⟨sb, mb, sv, lv, Dm, h⟩ := h
  rcases hl : x.loose.length with _ | n
  · rw [Bk.stands_nil (List.eq_nil_of_length_eq_zero hl)]
    obtain ⟨u, _, ⟨_, e⟩ | hb⟩ := h.sure k x hx
    · rw [e]; exact List.length_replicate
    · exact hb.blk.len
  · have h1 := Bk.stands_some hl
    obtain ⟨vals, _, hv, _⟩ := h.loose k x hx
    obtain ⟨u, _, hb⟩ := hv n _ h1
    exact hb.blk.len

end
end Go.Proofs.Ytcpapdpnnlnemaa
namespace Go.Proofs.Ytcpapdpnnlnemaa
open Go.RowKit Go.Maps

/-- Is there no such block, or are these no block's bytes? -/
def noSuch (D : Dv) (k : Int) (l : Bytes) : Prop := k < 0 ∨ (D.bk.length : Int) ≤ k ∨ l.length ≠ 512
instance (D : Dv) (k : Int) (l : Bytes) : Decidable (noSuch D k l) := by unfold noSuch; infer_instance

def wcode (D : Dv) (k : Int) (l : Bytes) : Int := if D.on = false then 8 else if noSuch D k l then 1 else if D.left = 0 then 8 else 0
def wdev (D : Dv) (k : Int) (l : Bytes) : Dv := if D.on = false then D else if noSuch D k l then D else if D.left = 0 then ⟨D.bk, false, D.left⟩ else ⟨wrote D.bk k.toNat l, D.on, spent D.left⟩
def fcode (D : Dv) : Int := if D.on = false then 8 else if D.left = 0 then 8 else 0
def fdev (D : Dv) : Dv := if D.on = false then D else if D.left = 0 then ⟨D.bk, false, D.left⟩ else ⟨flushed D.bk, D.on, spent D.left⟩
def acode (D : Dv) : Int := if D.on = false then 8 else 0
def adev (D : Dv) (n : Int) : Dv := if D.on = false then D else ⟨D.bk, D.on, max n (-1)⟩
def ocode (D : Dv) : Int := if D.on = false then 8 else 0
def odev (D : Dv) : Dv := if D.on = false then D else ⟨D.bk, false, D.left⟩
def ncode (D : Dv) : Int := if D.on = false then 0 else 3
def ndev (D : Dv) (l : List Int) : Dv := if D.on = false then ⟨comes D.bk l, true, -1⟩ else D

/-- What a device's call answers and leaves. -/
def DSteps (w : World) (b : Nat) (F : Nat → Prop) (c : Int) (D' : Dv) (e : Ending) (w' : World) : Prop := e = .returned (err c) ∧ Dev w' b D' (Grow F w w') ∧ Only F w w'
section
variable {w w' : World} {b : Nat} {D D' : Dv} {F : Nat → Prop}

theorem Dev.fb (h : Dev w b D F) : F b := by obtain ⟨sb, mb, sv, lv, Dm, h⟩ := h; exact h.fb
theorem grow_lt (hF : ∀ q, F q → q < w.heap.size) (hs : w.heap.size ≤ w'.heap.size) : ∀ q, Grow F w w' q → q < w'.heap.size := fun q hq => by
  rcases hq with hq | hq
  · have := hF q hq; omega
  · exact hq.2
theorem d_grow (h0 : Dev w b D F) (h : Dev w' b D' F) (ho : Only (· = b) w w') : Dev w' b D' (Grow F w w') ∧ Only F w w' :=
  ⟨h.widen (fun _ hq => .inl hq) (grow_lt h0.fl ho.size), ho.mono fun _ _ e => e ▸ h0.fb⟩
theorem d_same (h0 : Dev w b D F) : Dev w b D (Grow F w w) ∧ Only F w w := ⟨h0.widen (fun _ hq => .inl hq) (grow_lt h0.fl (Nat.le_refl _)), Only.refl _ _⟩
theorem d_later (h0 : Dev w b D F) (hb : Below w.heap.size w w') : Dev w' b D (Grow F w w') ∧ Only F w w' := ⟨(h0.below hb).widen (fun _ hq => .inl hq) (grow_lt h0.fl hb.size), Only.of_below hb F⟩
theorem nosuch_not {k : Int} {l : Bytes} (h : ¬ noSuch D k l) : ∃ n x, k = (n : Nat) ∧ D.bk[n]? = some x ∧ l.length = 512 := by
  have h1 : ¬ k < 0 := fun e => h (.inl e)
  have h2 : ¬ (D.bk.length : Int) ≤ k := fun e => h (.inr (.inl e))
  have h3 : ¬ l.length ≠ 512 := fun e => h (.inr (.inr e))
  exact ⟨k.toNat, D.bk[k.toNat]'(by omega), by omega, List.getElem?_eq_getElem (by omega), by omega⟩

theorem dwrite_any (h : Dev w b D F) (hs : Small D) (k : Int) {v : Value} {l : Bytes} (hv : Bs w v l) (hoff : ∀ q, v.ownBlock = some q → ¬ F q) :
    Calls Try.prog 19 #[ptr b, .int .i64 k, v] w (DSteps w b F (wcode D k l) (wdev D k l)) := by
  unfold wcode wdev
  by_cases ho : D.on = false
  · rw [if_pos ho, if_pos ho]
    refine (write_off h ho k v).mono ?_
    rintro e w' ⟨rfl, rfl⟩
    exact ⟨rfl, d_same h⟩
  have ho' : D.on = true := by simpa using ho
  rw [if_neg ho, if_neg ho]
  by_cases hn : noSuch D k l
  · rw [if_pos hn, if_pos hn]
    by_cases hk : k < 0 ∨ (D.bk.length : Int) ≤ k
    · refine (write_no h ho' k hk v).mono ?_
      rintro e w' ⟨rfl, rfl⟩
      exact ⟨rfl, d_same h⟩
    · obtain ⟨n, rfl⟩ : ∃ n : Nat, k = n := ⟨k.toNat, by omega⟩
      have hl : l.length ≠ 512 := by
        rcases hn with h1 | h1 | h1
        · exact absurd (.inl h1) hk
        · exact absurd (.inr h1) hk
        · exact h1
      refine (write_short h ho' n (by omega) hv hl).mono ?_
      rintro e w' ⟨rfl, rfl⟩
      exact ⟨rfl, d_same h⟩
  rw [if_neg hn, if_neg hn]
  obtain ⟨n, x, rfl, hx, hl⟩ := nosuch_not hn
  have hk := (List.getElem?_eq_some_iff.1 hx).1
  by_cases hz : D.left = 0
  · rw [if_pos hz, if_pos hz]
    refine (write_dies h ho' hz n hk hv hl).mono ?_
    rintro e w' ⟨rfl, hd, hon⟩
    exact ⟨rfl, d_grow h hd hon⟩
  · rw [if_neg hz, if_neg hz]
    exact write_ok h ho' hz hx (hs n x hx) hv hl hoff

theorem dflush_any (h : Dev w b D F) (hs : Small D) : Calls Try.prog 30 #[ptr b] w (DSteps w b F (fcode D) (fdev D)) := by
  unfold fcode fdev
  by_cases ho : D.on = false
  · rw [if_pos ho, if_pos ho]
    refine (flush_off h ho).mono ?_
    rintro e w' ⟨rfl, rfl⟩
    exact ⟨rfl, d_same h⟩
  have ho' : D.on = true := by simpa using ho
  rw [if_neg ho, if_neg ho]
  by_cases hz : D.left = 0
  · rw [if_pos hz, if_pos hz]
    refine (flush_dies h ho' hz).mono ?_
    rintro e w' ⟨rfl, hd, hon⟩
    exact ⟨rfl, d_grow h hd hon⟩
  · rw [if_neg hz, if_neg hz]
    exact flush_ok h ho' hz hs
theorem darm_any (h : Dev w b D F) (n : Int) (hn : n ≤ 9223372036854775807) : Calls Try.prog 13 #[ptr b, .int .i64 n] w (DSteps w b F (acode D) (adev D n)) := by
  unfold acode adev
  by_cases ho : D.on = false
  · rw [if_pos ho, if_pos ho]
    refine (arm_off h ho n).mono ?_
    rintro e w' ⟨rfl, rfl⟩
    exact ⟨rfl, d_same h⟩
  · have ho' : D.on = true := by simpa using ho
    rw [if_neg ho, if_neg ho]
    refine (arm_on h ho' n hn).mono ?_
    rintro e w' ⟨rfl, hd, hon⟩
    exact ⟨rfl, d_grow h hd hon⟩
theorem doff_any (h : Dev w b D F) : Calls Try.prog 15 #[ptr b] w (DSteps w b F (ocode D) (odev D)) := by
  unfold ocode odev
  by_cases ho : D.on = false
  · rw [if_pos ho, if_pos ho]
    refine (off_off h ho).mono ?_
    rintro e w' ⟨rfl, rfl⟩
    exact ⟨rfl, d_same h⟩
  · have ho' : D.on = true := by simpa using ho
    rw [if_neg ho, if_neg ho]
    refine (off_on h ho').mono ?_
    rintro e w' ⟨rfl, hd, hon⟩
    exact ⟨rfl, d_grow h hd hon⟩
theorem don_any (h : Dev w b D F) (hs : Small D) {v : Value} {l : List Int} (hv : Iv w v l) (hoff : l ≠ [] → ∀ q, v.ownBlock = some q → ¬ F q) : Calls Try.prog 17 #[ptr b, v] w (DSteps w b F (ncode D) (ndev D l)) := by
  unfold ncode ndev
  by_cases ho : D.on = false
  · rw [if_pos ho, if_pos ho]
    exact on_ok h ho hs hv hoff
  · have ho' : D.on = true := by simpa using ho
    rw [if_neg ho, if_neg ho]
    refine (on_on h ho' hv).mono ?_
    rintro e w' ⟨rfl, hb⟩
    exact ⟨rfl, d_later h hb⟩
end

/-- At most n things are loose in each block. -/
def Upto (D : Dv) (n : Nat) : Prop := ∀ (k : Nat) (x : Bk), D.bk[k]? = some x → x.loose.length ≤ n
theorem Upto.small {D : Dv} {n : Nat} (h : Upto D n) (hn : n < 4294967296) : Small D := fun k x hx => by have := h k x hx; omega
theorem Upto.more {D : Dv} {n m : Nat} (h : Upto D n) (hn : n ≤ m) : Upto D m := fun k x hx => by have := h k x hx; omega

theorem wdev_upto {D : Dv} {n : Nat} (h : Upto D n) (k : Int) (l : Bytes) : Upto (wdev D k l) (n + 1) ∧ (wdev D k l).bk.length = D.bk.length := by
  unfold wdev
  split
  · exact ⟨h.more (by omega), rfl⟩
  split
  · exact ⟨h.more (by omega), rfl⟩
  split
  · exact ⟨fun j x hx => by have := h j x hx; omega, rfl⟩
  · refine ⟨fun j x hx => ?_, wrote_length _ _ _⟩
    simp only [wrote_get] at hx
    split at hx
    · obtain ⟨y, hy, rfl⟩ := Option.map_eq_some_iff.1 hx
      have := h j y hy
      simp
      omega
    · have := h j x hx
      omega
theorem fdev_upto {D : Dv} {n : Nat} (h : Upto D n) : Upto (fdev D) (n + 1) ∧ (fdev D).bk.length = D.bk.length := by
  unfold fdev
  split
  · exact ⟨h.more (by omega), rfl⟩
  split
  · exact ⟨fun j x hx => by have := h j x hx; omega, rfl⟩
  · refine ⟨fun j x hx => ?_, flushed_length _⟩
    simp only [flushed, List.getElem?_map] at hx
    obtain ⟨y, hy, rfl⟩ := Option.map_eq_some_iff.1 hx
    simp
theorem adev_upto {D : Dv} {n : Nat} (h : Upto D n) (m : Int) : Upto (adev D m) (n + 1) ∧ (adev D m).bk.length = D.bk.length := by
  unfold adev
  split
  · exact ⟨h.more (by omega), rfl⟩
  · exact ⟨fun j x hx => by have := h j x hx; omega, rfl⟩
theorem odev_upto {D : Dv} {n : Nat} (h : Upto D n) : Upto (odev D) (n + 1) ∧ (odev D).bk.length = D.bk.length := by
  unfold odev
  split
  · exact ⟨h.more (by omega), rfl⟩
  · exact ⟨fun j x hx => by have := h j x hx; omega, rfl⟩
theorem ndev_upto {D : Dv} {n : Nat} (h : Upto D n) (l : List Int) : Upto (ndev D l) (n + 1) ∧ (ndev D l).bk.length = D.bk.length := by
  unfold ndev
  split
  · refine ⟨fun j x hx => ?_, comes_length _ _⟩
    have hj := (List.getElem?_eq_some_iff.1 hx).1
    simp only [comes_length] at hj
    have := comes_at D.bk l j _ (List.getElem?_eq_getElem hj)
    simp only [] at hx
    rw [this, Option.some.injEq] at hx
    subst hx
    simp
  · exact ⟨h.more (by omega), rfl⟩
end Go.Proofs.Ytcpapdpnnlnemaa
namespace Go.Proofs.Ytcpapdpnnlnemaa
open Go.RowKit Go.Maps

section
variable {w : World} {b : Nat} {D : Dv} {F : Nat → Prop}
theorem power_any (h : Dev w b D F) : Calls Try.prog 42 #[ptr b] w fun e w' => e = .returned (.bool D.on) ∧ w = w' := by
  obtain ⟨sb, mb, sv, lv, Dm, h⟩ := h
  have c2 := h.cells.2.2.1
  clear h
  go_enter Try.func42, Try.ntmps42
  go_wp2
  go_ret
  exact ⟨rfl, rfl⟩

theorem power_nil (w : World) : Calls Try.prog 42 #[.pointer none] w fun e w' => e = .returned (.bool false) ∧ w = w' := by
  go_enter Try.func42, Try.ntmps42
  go_wp2
  go_ret
  exact ⟨rfl, rfl⟩

end

section
variable {w0 w : World} {b : Nat} {D : Dv}
theorem m_power (h : Mine w0 w b D) : Calls Try.prog 42 #[ptr b] w fun e w' => e = .returned (.bool D.on) ∧ w = w' := by
  obtain ⟨F, h1, _⟩ := h
  exact power_any h1
end
end Go.Proofs.Ytcpapdpnnlnemaa
namespace Go.Proofs.Ytcpapdpnnlnemaa
open Go.RowKit Go.Maps

section
variable {w0 w : World} {b : Nat} {D : Dv} {v : Value} {l : Bytes}

end
end Go.Proofs.Ytcpapdpnnlnemaa
namespace Go.Proofs.Ytcpapdpnnlnemaa
open Go.RowKit Go.ChangeShapes Go.WideShapes

theorem isRow_iv {w : World} {a : Option Addr} {len cap : Nat} {zs : List Int} (h : IsRow .i64 w a len cap zs) : ∃ l, Iv w (.slice a len cap) l := by
  rcases h with ⟨rfl, rfl, rfl, rfl⟩ | ⟨x, rfl, hl, hm, hz, hc, hw⟩
  · exact ⟨[], Iv.nil w⟩
  · have hlen : (zs.take len).length = len := by rw [List.length_take]; omega
    refine ⟨zs.take len, some x, cap, by rw [hlen], by rw [hlen]; unfold maxLen at hm; omega, (fun h => by cases h), fun ad had i u hu => ?_, fun u hu => ?_⟩
    · cases had
      have hi := (List.getElem?_eq_some_iff.1 hu).1
      rw [hlen] at hi
      rw [List.getElem?_take_of_lt hi] at hu
      rw [hc i (by omega), List.getD_eq_getElem?_getD, hu]
      rfl
    · exact bounds_i64 (hw u (List.mem_of_mem_take hu))

section
variable {H : Type} {enc : TypeId × Value → H}

theorem byte_of_trod {W : World} {b : Nat} {sp : Nat → Bool} {hd : Bool} {n : Nat} {cs : List Value} {x : DataW H × List MemPlace} (h : DataW.trod enc Try.prog W b sp hd n 5 cs = some x) : ∃ c : UInt8, cs = [bv c] := by
  obtain ⟨m, rfl, _, hw⟩ := DataW.trod_int Try.underlying5 h
  obtain ⟨k, rfl, hk⟩ := wf_u8 hw
  exact ⟨UInt8.ofNat k, by simp [bv]; omega⟩

theorem iv_of_trod {W : World} {n : Nat} {cs : List Value} {x : DataW H × List MemPlace} (h : DataW.trod enc Try.prog W 0 (fun _ => true) true n 35 cs = some x) : ∃ v l, cs = [v] ∧ Iv W v l := by
  rcases open_ints Try.underlying35 Try.underlying3 (by kernel_rfl) h with ⟨hcs, _⟩ | ⟨a, l, c, zs, hcs, _, hl, hm, hz, _, hcell, hwz⟩
  · exact ⟨_, _, hcs, Iv.nil W⟩
  · have hr : IsRow .i64 W (some a) l c zs := .inr ⟨_, rfl, hl, hm, by simpa using hz, hcell, hwz⟩
    obtain ⟨ls, hi⟩ := isRow_iv hr
    exact ⟨_, ls, hcs, hi⟩

end
end Go.Proofs.Ytcpapdpnnlnemaa
