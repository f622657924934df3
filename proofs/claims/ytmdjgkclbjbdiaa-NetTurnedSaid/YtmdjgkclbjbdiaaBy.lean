/- Slices of bytes in the model's memory: what a slice of bytes reads as, what stays of it, the runs of append, slicing, string(..) and bytealg.Compare over it, literals of bytes, and how arguments read; conditions: the sizes that each law names. -/
import Derived.WalkKit
import Derived.WalkSpells
import Derived.WalkLawsBesides
import Derived.Lib.Bytealg
import Derived.Laws.BitsAllLaws
import Derived.OneCell
import Derived.Lib.BufferMore
import Derived.Lib.Hide
import Derived.Lib.SlBytesConst
import Derived.ProofKit
import Derived.OpenShut
import Derived.Test.YtmdjgkclbjbdiaaRows
namespace Go.Proofs.Ytmdjgkclbjbdiaa
open Go.RowKit

/-- A byte as a value. -/
def bv (x : UInt8) : Value := .int .u8 (x.toNat : Int)
def bvs (l : List UInt8) : List Value := l.map bv
theorem bvs_length (l : List UInt8) : (bvs l).length = l.length := by simp [bvs]
theorem bvs_append (l m : List UInt8) : bvs (l ++ m) = bvs l ++ bvs m := by simp [bvs]
theorem bvs_cell {l : List UInt8} {i : Nat} (h : i < l.length) : (bvs l)[i]? = some (bv l[i]) := by simp [bvs, h]
theorem bvs_one {l : List UInt8} : ∀ u ∈ bvs l, u.oneCell' = true := by
  intro u hu
  obtain ⟨x, _, rfl⟩ := List.mem_map.1 hu
  rfl

/-- The value is a slice that reads as these bytes. -/
def Bs (w : World) (v : Value) (l : List UInt8) : Prop :=
  ∃ a cap, v = .slice a l.length cap ∧ l.length ≤ cap ∧ cap ≤ maxLen ∧ (a = none → cap = 0) ∧
    ∀ ad, a = some ad → ∀ i u, (bvs l)[i]? = some u → w.cell? (ad.add i) = some u

theorem Bs.nil (w : World) : Bs w (.slice none 0 0) [] := ⟨none, 0, rfl, Nat.le_refl _, Nat.zero_le _, fun _ => rfl, fun _ h => by cases h⟩

/-- What keeps each cell that there is keeps each slice. -/
theorem Bs.kept {w w' : World} {v : Value} {l : List UInt8} (h : Bs w v l) (hw : ∀ a u, w.cell? a = some u → w'.cell? a = some u) : Bs w' v l := by
  obtain ⟨a, cap, h1, h2, h3, h4, h5⟩ := h
  exact ⟨a, cap, h1, h2, h3, h4, fun ad had i u hu => hw _ _ (h5 ad had i u hu)⟩

theorem Bs.below {w w' : World} {v : Value} {l : List UInt8} (h : Bs w v l) (hb : Below w.heap.size w w') : Bs w' v l :=
  h.kept fun a _ hu => (hb.cell (p := a) (World.block_lt_of_cell? w a hu)).trans hu

theorem Bs.drewN {w : World} {v : Value} {l : List UInt8} (h : Bs w v l) (n : Nat) : Bs (w.drewN n) v l := h.kept fun _ _ hu => hu

theorem Bs.alloc {w : World} {v : Value} {l : List UInt8} (h : Bs w v l) (o : Obj) : Bs (w.alloc o) v l :=
  h.below ((Below.refl _ _).alloc (Nat.le_refl _) o)

/-- Where one block may be written: a slice that lies elsewhere stays. -/
theorem Bs.grown {w w' : World} {v : Value} {l : List UInt8} {row : Option Nat} (h : Bs w v l) (hg : w.grownBy w' row)
    (hne : ∀ a n c, v = .slice (some a) n c → row ≠ some a.block) : Bs w' v l := by
  obtain ⟨a, cap, h1, h2, h3, h4, h5⟩ := h
  refine ⟨a, cap, h1, h2, h3, h4, fun ad had i u hu => hg.cell (h5 ad had i u hu) ?_⟩
  subst had
  have := hne ad _ _ h1
  intro e
  apply this
  rw [← e]
  unfold Addr.add
  split <;> rfl

theorem Bs.shape {w : World} {v : Value} {l : List UInt8} (h : Bs w v l) : ∃ a cap, v = .slice a l.length cap ∧ Bs w (.slice a l.length cap) l := by
  obtain ⟨a, cap, rfl, r⟩ := h
  exact ⟨a, cap, rfl, a, cap, rfl, r⟩

theorem Bs.len {w : World} {v : Value} {l : List UInt8} (h : Bs w v l) : l.length ≤ 9223372036854775807 := by
  obtain ⟨a, cap, _, h1, h2, _⟩ := h
  unfold maxLen at h2
  omega

/-- A slice that is not empty, opened. -/
theorem Bs.open {w : World} {v : Value} {l : List UInt8} (h : Bs w v l) (hne : 0 < l.length) : ∃ b o cap, v = .slice (some ⟨b, o, none⟩) l.length cap ∧ l.length ≤ cap ∧ b < w.heap.size ∧
    ∀ i x, l[i]? = some x → w.cell? ⟨b, o + i, none⟩ = some (.int .u8 (x.toNat : Int)) := by
  obtain ⟨a, cap, rfl, h1, h2, h3, h4⟩ := h
  rcases a with _ | ⟨b, o, s⟩
  · have := h3 rfl; omega
  · have h0 := h4 _ rfl 0 (bv l[0]) (bvs_cell hne)
    have hs : s = none := by simpa [Addr.add] using World.cell?_spot h0
    subst hs
    refine ⟨b, o, cap, rfl, h1, ?_, fun i x hx => ?_⟩
    · simpa [Addr.add] using World.block_lt_of_cell? w _ h0
    · have := h4 _ rfl i (bv x) (by simp [bvs, hx])
      rw [Addr.add_lit] at this
      exact this

/-- A row of the call's own, of bytes. -/
abbrev Ow (w : World) (base : Nat) (e : TypeId) (v : Value) (l : List UInt8) : Prop := w.ownsRow base e 1 v l.length (bvs l)

theorem Ow.bs {w : World} {base : Nat} {e : TypeId} {v : Value} {l : List UInt8} (h : Ow w base e v l) : Bs w v l := by
  have hc := fun g (hg : v.ownBlock = some g) => World.ownsRow.cells h hg
  rcases h.2 with ⟨rfl, h2⟩ | ⟨g, cap, cur, rfl, hb, hg, hn, hm, hcs, ht⟩
  · have : l = [] := List.eq_nil_of_length_eq_zero h2
    subst this
    exact Bs.nil w
  · refine ⟨_, cap, rfl, hn, hm, (fun h => by cases h), fun ad had i u hu => ?_⟩
    cases had
    exact hc g rfl i u hu

theorem Ow.block {w : World} {base : Nat} {e : TypeId} {v : Value} {l : List UInt8} (h : Ow w base e v l) : ∀ a n c, v = .slice (some a) n c → base ≤ a.block ∧ a.block < w.heap.size := by
  intro a n c hv
  subst hv
  exact World.ownsRow.lt h _ rfl

theorem Ow.mono {w : World} {base base' : Nat} {e : TypeId} {v : Value} {l : List UInt8} (h : Ow w base e v l) (hb : base' ≤ base) : Ow w base' e v l := by
  refine ⟨h.1, ?_⟩
  rcases h.2 with h' | ⟨g, cap, cur, hv, hbg, r⟩
  · exact .inl h'
  · exact .inr ⟨g, cap, cur, hv, by omega, r⟩

/-- What keeps every old block keeps what is owned. -/
theorem Ow.below {w w' : World} {base : Nat} {e : TypeId} {v : Value} {l : List UInt8} (h : Ow w base e v l) (hb : Below w.heap.size w w') : Ow w' base e v l := by
  refine ⟨h.1, ?_⟩
  rcases h.2 with h' | ⟨g, cap, cur, hv, hbg, hg, r⟩
  · exact .inl h'
  · refine .inr ⟨g, cap, cur, hv, hbg, ?_, r⟩
    have hlt : g < w.heap.size := (Array.getElem?_eq_some_iff.1 hg).1
    rw [hb.block g hlt]; exact hg

theorem Ow.grown {w w' : World} {base : Nat} {e : TypeId} {v : Value} {l : List UInt8} {row : Option Nat} (h : Ow w base e v l) (hg : w.grownBy w' row) (hne : v.ownBlock = none ∨ v.ownBlock ≠ row) : Ow w' base e v l :=
  World.ownsRow.kept h hg hne

/-- A literal in a new block. -/
theorem Ow.lit (w : World) (base : Nat) (e : TypeId) (l : List UInt8) (hb : base ≤ w.heap.size) (hm : l.length ≤ maxLen) :
    Ow (w.alloc (.cells (bvs l).toArray e)) base e (.slice (some ⟨w.heap.size, 0, none⟩) l.length l.length) l := by
  have := World.ownsRow_lit (base := base) (e := e) (size := 1) w (bvs l).toArray l.length hb hm (by simp [bvs_length])
  simpa using this

/-- What is owned, a cell of it written. -/
theorem Ow.at {w : World} {base g cap n : Nat} {e : TypeId} {l : List UInt8} (h : Ow w base e (.slice (some ⟨g, 0, none⟩) n cap) l) (i : Nat) (hi : i < l.length) :
    w.cell? ⟨g, i, none⟩ = some (bv l[i]) ∧ w.frozen? ⟨g, i, none⟩ = false ∧ base ≤ g ∧ g < w.heap.size := by
  have h1 := h.bs
  obtain ⟨a, cap', hv, h2, h3, h4, h5⟩ := h1
  simp only [Value.slice.injEq] at hv
  obtain ⟨rfl, _, rfl⟩ := hv
  have hc := h5 _ rfl i _ (bvs_cell hi)
  rw [Addr.add_lit, Nat.zero_add] at hc
  have hb := h.block _ _ _ rfl
  refine ⟨hc, ?_, hb.1, hb.2⟩
  rcases h.2 with ⟨h2, _⟩ | ⟨g', cap', cur, hv, hbg, hg, r⟩
  · cases h2
  · simp only [Value.slice.injEq, Option.some.injEq, Addr.mk.injEq] at hv
    obtain ⟨⟨rfl, _⟩, _⟩ := hv
    simp [World.frozen?, hg]

theorem Ow.set {w : World} {base g cap n : Nat} {e : TypeId} {l : List UInt8} (h : Ow w base e (.slice (some ⟨g, 0, none⟩) n cap) l) (i : Nat) (x : UInt8) :
    Ow (w.setCell ⟨g, i, none⟩ (bv x)) base e (.slice (some ⟨g, 0, none⟩) n cap) (l.set i x) := by
  rcases h.2 with ⟨h2, _⟩ | ⟨g', cap', cur, hv, hbg, hg, hn, hm, hs, ht⟩
  · cases h2
  · simp only [Value.slice.injEq, Option.some.injEq, Addr.mk.injEq] at hv
    obtain ⟨⟨rfl, _⟩, hln, rfl⟩ := hv
    refine ⟨by simp [bvs], .inr ⟨g, cap, cur.setIfInBounds i (bv x), by rw [List.length_set]; simp [hln], hbg, ?_, by simpa using hn, hm, by simpa using hs, ?_⟩⟩
    · rw [Lib.heap_setCell_same hg]
    · rw [Array.toList_setIfInBounds, List.take_set, List.length_set, ht]
      simp [bvs, List.map_set]

theorem Ow.form {w : World} {base : Nat} {e : TypeId} {v : Value} {l : List UInt8} (h : Ow w base e v l) (hn : 0 < l.length) : ∃ g cap, v = .slice (some ⟨g, 0, none⟩) l.length cap ∧ base ≤ g := by
  rcases h.2 with ⟨_, h2⟩ | ⟨g, cap, cur, hv, hb, _⟩
  · omega
  · exact ⟨g, cap, hv, hb⟩

theorem Bs.new1 (w : World) (e : TypeId) (val : Value) (x : UInt8) (h : val = bv x) : Bs (w.alloc (.cells #[val] e)) (.slice (some ⟨w.heap.size, 0, none⟩) 1 1) [x] := by
  subst h
  exact (Ow.lit w w.heap.size e [x] (Nat.le_refl _) (by simp [maxLen])).bs

theorem byte_val (n s : Nat) : Value.int .u8 ((n : Int) / 2 ^ s % 256) = bv (UInt8.ofNat (n / 2 ^ s)) := by
  unfold bv
  simp

/-- A byte laid behind a number. -/
theorem or_byte (n : Nat) (x : UInt8) (h : n < 72057594037927936) : bits .or .u64 ((n : Int) * 256) (x.toNat : Int) = ((n * 256 + x.toNat : Nat) : Int) := by
  have hx := x.toNat_lt
  have e : (n : Int) * 256 = ((n * 256 : Nat) : Int) := by omega
  rw [e, u64_or_nat (n * 256) x.toNat (by omega) (by omega)]
  have := Nat.two_pow_add_eq_or_of_lt (i := 8) (b := x.toNat) hx n
  rw [Nat.mul_comm n 256]
  exact congrArg Int.ofNat this.symm

/-- The type []byte of the program. -/
structure ByteTy (P : Program) (t e : TypeId) : Prop where
  slice : P.underlying t = some (.slice e)
  byte : P.underlying e = some (.int .u8)
  info : (P.info? e).map (fun i => (i.zero, i.size, i.bytes)) = some (some (.int .u8 0), 1, 1)

section
variable {P : Program} {t e : TypeId}

theorem ByteTy.parts (T : ByteTy P t e) : ∃ i, P.info? e = some i ∧ i.zero = some (.int .u8 0) ∧ i.size = 1 ∧ i.bytes = 1 := by
  obtain ⟨i, hi, h⟩ := Option.map_eq_some_iff.1 T.info
  simp only [Prod.mk.injEq] at h
  exact ⟨i, hi, h.1, h.2.1, h.2.2⟩

theorem run_append_bs (T : ByteTy P t e) (w : World) (base : Nat) (ty : TypeId) {v x : Value} {l m : List UInt8} (hv : Ow w base e v l) (hx : Bs w x m)
    (hn : l.length + m.length ≤ 140737488355328) (hbase : base ≤ w.heap.size) :
    ∃ v' w', (Builtin.append_ #[t, t] ty #[v, x]).run P w = .ok v' w' ∧ Ow w' base e v' (l ++ m) ∧ w.grownBy w' v.ownBlock := by
  obtain ⟨i, hi, hz, hs, hb⟩ := T.parts
  obtain ⟨a, cap, rfl, h2, h3, h4, h5⟩ := hx
  rcases a with _ | ad
  · have hc := h4 rfl
    subst hc
    have hm : m = [] := List.eq_nil_of_length_eq_zero (by omega)
    subst hm
    refine ⟨v, w, run_append_owned_none (P := P) w base t ty e i 1 T.slice hi v l.length (bvs l) hv, by simpa using hv, ⟨rfl, rfl, rfl, Nat.le_refl _, fun _ _ _ => rfl⟩⟩
  · obtain ⟨v', w', hr, ho, hg, _⟩ := run_append_own (P := P) w base t ty e i (.int .u8 0) 1 1 T.slice hi hz hs hb rfl (by decide) v l.length (bvs l) hv ad m.length cap (bvs m) (by simp [bvs_length])
      (h5 ad rfl) bvs_one (by unfold maxLen; omega) (by omega) hbase
    exact ⟨v', w', hr, by simpa [Ow, bvs_append, List.length_append] using ho, hg⟩

theorem wpList_append_bs (T : ByteTy P t e) {ops : Array Oper} {rest : List Oper} {o : Oper} {a : Act} {w : World} {Q : Exit → Act → World → Prop} (hgd : o.guard = none) (s x : Operand)
    (ho : o.op = .call { callee := .builtin .append, args := #[s, x], argTypes := #[t, t] }) (base : Nat) {v xv : Value} {l m : List UInt8} (hs : a.eval s = v) (hx : a.eval x = xv)
    (hv : Ow w base e v l) (hm : Bs w xv m) (hn : l.length + m.length ≤ 140737488355328) (hbase : base ≤ w.heap.size)
    (h : ∀ v' w', Ow w' base e v' (l ++ m) → w.grownBy w' v.ownBlock → wpList P ops Q rest (a.put o.dst v') w') : wpList P ops Q (o :: rest) a w := by
  obtain ⟨v', w', hr, h2, h3⟩ := run_append_bs T w base o.type hv hm hn hbase
  refine wpList_plain hgd fun _ hK => ?_
  unfold Oper.wp execOp
  simp only [ho, resolve, invoke, builtin, Sem.run_bind, Sem.run_pure, Result.andThen_ok, List.map_toArray, List.map_cons, List.map_nil, hs, hx, hr]
  exact hK _ _ (h v' w' h2 h3)

/-- make([]byte, 0, c). -/
theorem run_make_bs (T : ByteTy P t e) (w : World) (base : Nat) (kl kc : IntKind) (c : Nat) (hc : c ≤ 140737488355328) (hbase : base ≤ w.heap.size) :
    ∃ w', (Instr.makeSlice t (.int kl 0) (.int kc (c : Int))).run P w = .ok (.slice (some ⟨w.heap.size, 0, none⟩) 0 c) w' ∧
      Ow w' base e (.slice (some ⟨w.heap.size, 0, none⟩) 0 c) [] ∧ w.grownBy w' none := by
  obtain ⟨i, hi, hz, hs, hb⟩ := T.parts
  exact run_make_own (P := P) w base t e i (.int .u8 0) 1 T.slice hi hz hs kl kc c (by rw [hb]; omega) (by unfold maxLen; omega) hbase

/-- make([]byte, n). -/
theorem run_zeros_bs (T : ByteTy P t e) (w : World) (base : Nat) (kl kc : IntKind) (n : Nat) (hn : n ≤ 140737488355328) (hbase : base ≤ w.heap.size) :
    ∃ w', (Instr.makeSlice t (.int kl (n : Int)) (.int kc (n : Int))).run P w = .ok (.slice (some ⟨w.heap.size, 0, none⟩) n n) w' ∧
      Ow w' base e (.slice (some ⟨w.heap.size, 0, none⟩) n n) (List.replicate n 0) ∧ w.grownBy w' none := by
  obtain ⟨i, hi, hz, hs, hb⟩ := T.parts
  obtain ⟨w', h1, h2, h3⟩ := run_make_full (P := P) w base t e i (.int .u8 0) 1 T.slice hi hz hs kl kc n (by rw [hb]; omega) (by unfold maxLen; omega) hbase
  refine ⟨w', h1, ?_, h3⟩
  have e1 : (madeCells (Value.int .u8 0).cells (n * 1)).toList = bvs (List.replicate n 0) := by
    apply List.ext_getElem?
    intro j
    by_cases hj : j < n
    · simp [madeCells, bvs, hj, Value.cells, bv, Nat.mod_one]
    · simp [madeCells, bvs, hj]
  rw [e1] at h2
  unfold Ow
  rw [List.length_replicate]
  exact h2

theorem ByteTy.elem (T : ByteTy P t e) : P.elem t = e := by simp [Program.elem, T.slice]
theorem ByteTy.slice' (T : ByteTy P t e) : P.underlying t = some (.slice (P.elem t)) := by rw [T.elem]; exact T.slice
theorem ByteTy.run_size (T : ByteTy P t e) (w : World) : (Go.sizeOf e).run P w = .ok 1 w := by
  obtain ⟨i, hi, _, hs, _⟩ := T.parts
  simp [sizeOf, typeInfo, hi, hs]

theorem bs_sliced {w : World} {a : Option Addr} {cap : Nat} {l : List UInt8} (h1 : l.length ≤ cap) (h2 : cap ≤ maxLen) (h3 : a = none → cap = 0)
    (h4 : ∀ ad, a = some ad → ∀ i u, (bvs l)[i]? = some u → w.cell? (ad.add i) = some u) (lo hi : Nat) (hlh : lo ≤ hi) (hhi : hi ≤ l.length) : Bs w (sliced a lo hi cap 1) ((l.take hi).drop lo) := by
  have hlen : ((l.take hi).drop lo).length = hi - lo := by simp; omega
  refine ⟨if cap = lo then a else a.map (·.add (lo * 1)), cap - lo, by rw [hlen]; rfl, by omega, by omega, ?_, ?_⟩
  · split
    · intro _; omega
    · intro h; have : a = none := by simpa using h
      have := h3 this; omega
  · intro ad had i u hu
    have hi' : i < ((l.take hi).drop lo).length := by
      have := (List.getElem?_eq_some_iff.1 hu).1
      simpa [bvs] using this
    have hne : ¬ cap = lo := by omega
    rw [if_neg hne] at had
    obtain ⟨a0, rfl, rfl⟩ := Option.map_eq_some_iff.1 had
    rw [Addr.add_add, Nat.mul_one]
    apply h4 a0 rfl
    rw [← hu]
    simp only [bvs, List.getElem?_map, List.getElem?_drop, List.getElem?_take]
    rw [if_pos (by omega)]

/-- b[lo:hi], within the length. -/
theorem run_slice_bs (T : ByteTy P t e) (w : World) {v : Value} {l : List UInt8} (hv : Bs w v l) (k1 k2 : IntKind) (lo hi : Nat) (h1 : lo ≤ hi) (h2 : hi ≤ l.length) :
    ∃ v', (∀ w1, (Instr.slice t v (some (.int k1 (lo : Int))) (some (.int k2 (hi : Int))) none).run P w1 = .ok v' w1) ∧ Bs w v' ((l.take hi).drop lo) := by
  obtain ⟨a, cap, rfl, g1, g2, g3, g4⟩ := hv
  refine ⟨sliced a lo hi cap 1, fun w1 => ?_, bs_sliced g1 g2 g3 g4 lo hi h1 h2⟩
  rw [run_slice_lh w1 t a _ cap T.slice' k1 k2 _ _ (by omega) (by omega) (by omega), T.elem, T.run_size]
  simp [Result.andThen]

theorem run_slice_to_bs (T : ByteTy P t e) (w : World) {v : Value} {l : List UInt8} (hv : Bs w v l) (k2 : IntKind) (hi : Nat) (h2 : hi ≤ l.length) :
    ∃ v', (∀ w1, (Instr.slice t v none (some (.int k2 (hi : Int))) none).run P w1 = .ok v' w1) ∧ Bs w v' (l.take hi) := by
  obtain ⟨a, cap, rfl, g1, g2, g3, g4⟩ := hv
  refine ⟨sliced a 0 hi cap 1, fun w1 => ?_, by simpa using bs_sliced g1 g2 g3 g4 0 hi (by omega) h2⟩
  rw [run_slice_h w1 t a _ cap T.slice' k2 _ (by omega) (by omega), T.elem, T.run_size]
  simp [Result.andThen]

/-- The bytes, loaded. -/
theorem run_loadBytes (w : World) : ∀ (l : List UInt8) (a : Addr) (acc : ByteArray), (∀ j u, (bvs l)[j]? = some u → w.cell? (a.add j) = some u) →
    (Extern.Bytes.loadBytes a l.length acc).run P w = .ok ⟨acc.data ++ l.toArray⟩ w
  | [], a, acc, _ => by simp [Extern.Bytes.loadBytes]
  | x :: l, a, acc, h => by
    have h0 : w.cell? a = some (bv x) := by
      have := h 0 (bv x) rfl
      simpa [Addr.add] using this
    have ih := run_loadBytes w l (a.add 1) (acc.push x) (fun j y hy => by
      have := h (j + 1) y (by simpa [bvs] using hy)
      rw [Addr.add_add, Nat.add_comm]; exact this)
    unfold bv at h0
    simp only [List.length_cons, Extern.Bytes.loadBytes, Sem.run_bind, run_load, h0, Result.andThen]
    have e1 : ((x.toNat : Int)).toNat.toUInt8 = x := by simp
    rw [e1, ih]
    congr 1
    apply ByteArray.ext
    simp [ByteArray.push]

theorem run_bytesOf_bs (w : World) {v : Value} {l : List UInt8} (hv : Bs w v l) : (Extern.Bytes.bytesOf v).run P w = .ok ⟨l.toArray⟩ w := by
  obtain ⟨a, cap, rfl, g1, g2, g3, g4⟩ := hv
  rcases a with _ | a
  · have := g3 rfl
    have : l = [] := List.eq_nil_of_length_eq_zero (by omega)
    subst this
    rfl
  · have := run_loadBytes (P := P) w l a .empty (g4 a rfl)
    simp only [Extern.Bytes.bytesOf, this]
    congr 1
    apply ByteArray.ext
    show (#[] : Array UInt8) ++ l.toArray = l.toArray
    simp

theorem run_compare_bs (w : World) {v x : Value} {l m : List UInt8} (hv : Bs w v l) (hx : Bs w x m) :
    (Extern.BytealgCompare.compare #[v, x]).run P w = .ok (.int .i64 (Lib.compareBytes l m)) w := by
  change Sem.run P (do pure (goInt (Extern.BytealgCompare.cmp (← Extern.Bytes.bytesOf v) (← Extern.Bytes.bytesOf x)))) w = _
  simp only [Sem.run_bind, Sem.run_pure, run_bytesOf_bs w hv, run_bytesOf_bs w hx, Result.andThen]
  rw [Lib.cmp_eq]
  rfl
/-- string(b). -/
theorem run_string_bs (T : ByteTy P t e) {d : TypeId} (hd : P.underlying d = some .string) (w : World) {v : Value} {l : List UInt8} (hv : Bs w v l) :
    (convert t d v).run P w = .ok (.string ⟨l.toArray⟩) w := by
  obtain ⟨a, cap, rfl, g1, g2, g3, g4⟩ := hv
  rcases a with _ | a
  · have := g3 rfl
    have : l = [] := List.eq_nil_of_length_eq_zero (by omega)
    subst this
    exact run_convert_bytes_nil w t e T.slice T.byte _ _ d hd
  · exact run_convert_bytes_back w t d e a cap l T.slice T.byte hd fun j hj => g4 a rfl j _ (bvs_cell hj)
end

/-! ### the call's own rows -/
theorem bt : ByteTy Try.prog 36 5 := ⟨Try.underlying36, Try.underlying5, by kernel_rfl⟩

/-- A call returns these bytes, in a row of its own; nothing that was there is written. -/
def Gives (w : World) (l : List UInt8) (e : Ending) (w' : World) : Prop := ∃ v, e = .returned v ∧ Ow w' w.heap.size 5 v l ∧ Below w.heap.size w w'
/-- A call returns true and writes nothing that was there. -/
def Yes (w : World) (e : Ending) (w' : World) : Prop := e = .returned (.bool true) ∧ Below w.heap.size w w'

theorem below_own {w w1 w2 : World} {v : Value} {l : List UInt8} (hb : Below w.heap.size w w1) (ho : Ow w1 w.heap.size 5 v l) (hg : w1.grownBy w2 v.ownBlock) : Below w.heap.size w w2 :=
  hb.grown hg hb.size fun k hk => (World.ownsRow.lt ho k hk).1

theorem ow_empty (w : World) : Ow (w.alloc (.cells #[] 5)) w.heap.size 5 (.slice (some ⟨w.heap.size, 0, none⟩) 0 0) [] :=
  Ow.lit w w.heap.size 5 [] (Nat.le_refl _) (Nat.zero_le _)

/-- A literal slice of bytes, in the block that was laid for it. -/
theorem bs_lit (w : World) (cs : Array Value) (l : List UInt8) (n : Nat) (h : cs = (bvs l).toArray) (hn : n = l.length) (hm : l.length ≤ 1000) :
    Bs (w.alloc (.cells cs 5)) (.slice (some ⟨w.heap.size, 0, none⟩) n n) l := by
  subst h; subst hn
  exact (Ow.lit w w.heap.size 5 l (Nat.le_refl _) (by unfold maxLen; omega)).bs

theorem below_lit (w : World) (cs : Array Value) : Below w.heap.size w (w.alloc (.cells cs 5)) := (Below.refl _ _).alloc (Nat.le_refl _) _

/-- A literal slice of bytes that was made of a constant text: its block bears a mark. -/
theorem bs_text (w : World) (cs : Array Value) (l : List UInt8) (n : Nat) (fr : Nat × Nat) (h : cs = (bvs l).toArray) (hn : n = l.length) (hm : l.length ≤ 1000) :
    Bs (w.alloc (.cells cs 5 fr)) (.slice (some ⟨w.heap.size, 0, none⟩) n n) l := by
  subst h; subst hn
  refine ⟨_, l.length, rfl, Nat.le_refl _, by unfold maxLen; omega, (fun h => by cases h), fun ad had i u hu => ?_⟩
  cases had
  rw [Addr.add_lit, Nat.zero_add, World.cell?_alloc_mark]
  simpa using hu

theorem below_text (w : World) (cs : Array Value) (fr : Nat × Nat) : Below w.heap.size w (w.alloc (.cells cs 5 fr)) := (Below.refl _ _).alloc (Nat.le_refl _) _

theorem run_convert_second (w : World) (o : Obj) (C : Array Value) (n c : Nat) :
    (convert 36 36 (.slice (some ⟨w.heap.size + 1, 0, none⟩) n c)).run Try.prog ((w.alloc o).alloc (.cells C 5)) =
      .ok (.slice (some ⟨w.heap.size + 1, 0, none⟩) n c) ((w.alloc o).alloc (.cells C 5 (C.size, C.size + 1))) := by
  have h := Lib.run_convert_bytes_const (P := Try.prog) (w.alloc o) 36 5 C n c Try.underlying36 Try.underlying5
  have e : (w.alloc o).heap.size = w.heap.size + 1 := by simp
  rw [e] at h
  exact h

/-! ### quiet calls whose contract has the caller's world on the left -/
theorem quiet_add_left {P : Program} {f : FuncId} {args : Array Value} {w : World} {a n : Nat} {v : Value}
    (h : Calls P f args (w.drewN (a + n)) fun e w' => e = .returned v ∧ w.drewN (a + n) = w') :
    Calls P f args (w.drewN (a + n)) fun e w'' => e = .returned v ∧ ∃ m, w'' = w.drewN (a + m) :=
  h.mono fun _ _ ⟨he, hm⟩ => ⟨he, n, hm.symm⟩
theorem quiet_left {P : Program} {f : FuncId} {args : Array Value} {w : World} {n : Nat} {v : Value}
    (h : Calls P f args (w.drewN n) fun e w' => e = .returned v ∧ w.drewN n = w') : Calls P f args (w.drewN n) fun e w'' => e = .returned v ∧ ∃ m, w'' = w.drewN m :=
  h.mono fun _ _ ⟨he, hm⟩ => ⟨he, n, hm.symm⟩

/-! ### arguments -/

/-- A slice of integers that came in: nil, or a row of cells. -/
def IsRow (k : IntKind) (w : World) (a : Option Addr) (len cap : Nat) (zs : List Int) : Prop :=
  (a = none ∧ len = 0 ∧ cap = 0 ∧ zs = []) ∨
  ∃ x, a = some x ∧ len ≤ cap ∧ cap ≤ maxLen ∧ zs.length = cap ∧ (∀ i, i < zs.length → w.cell? (x.add i) = some (.int k (zs.getD i 0))) ∧ ∀ n ∈ zs, (Lit.int k n).wf = true

theorem isRow_bs {w : World} {a : Option Addr} {len cap : Nat} {zs : List Int} (h : IsRow .u8 w a len cap zs) : ∃ l, Bs w (.slice a len cap) l := by
  rcases h with ⟨rfl, rfl, rfl, rfl⟩ | ⟨x, rfl, hl, hm, hz, hc, hw⟩
  · exact ⟨[], Bs.nil w⟩
  · refine ⟨(zs.take len).map fun n => UInt8.ofNat n.toNat, some x, cap, ?_, ?_, hm, (fun h => by cases h), fun ad had i u hu => ?_⟩
    · simp; omega
    · simp; omega
    · cases had
      have hi := (List.getElem?_eq_some_iff.1 hu).1
      simp [bvs] at hi
      rw [hc i (by omega), ← hu]
      have hw' := hw (zs[i]'(by omega)) (List.getElem_mem _)
      have hb : 0 ≤ zs[i]'(by omega) ∧ zs[i]'(by omega) ≤ 255 := bounds_u8 hw'
      have hlt : i < zs.length := by omega
      simp only [bvs, List.map_map, List.getElem?_map, List.getElem?_take, List.getD_eq_getElem?_getD, List.getElem?_eq_getElem hlt, Option.getD_some]
      rw [if_pos (by omega)]
      simp only [Option.map_some, Function.comp, bv]
      congr 2
      rw [UInt8.toNat_ofNat']
      omega

theorem wf_u64 {n : Int} (h : (Lit.int .u64 n).wf = true) : ∃ m : Nat, n = (m : Int) ∧ m < 18446744073709551616 := by
  obtain ⟨h1, h2⟩ := bounds_u64 h
  obtain ⟨m, rfl⟩ := Int.eq_ofNat_of_zero_le h1
  exact ⟨m, rfl, by omega⟩

theorem wf_u8 {n : Int} (h : (Lit.int .u8 n).wf = true) : ∃ m : Nat, n = (m : Int) ∧ m < 256 := by
  obtain ⟨h1, h2⟩ := bounds_u8 h
  obtain ⟨m, rfl⟩ := Int.eq_ofNat_of_zero_le h1
  exact ⟨m, rfl, by omega⟩

theorem wf_u32 {n : Int} (h : (Lit.int .u32 n).wf = true) : ∃ m : Nat, n = (m : Int) ∧ m < 4294967296 := by
  obtain ⟨h1, h2⟩ := bounds_u32 h
  obtain ⟨m, rfl⟩ := Int.eq_ofNat_of_zero_le h1
  exact ⟨m, rfl, by omega⟩

theorem wf_u16 {n : Int} (h : (Lit.int .u16 n).wf = true) : ∃ m : Nat, n = (m : Int) ∧ m < 65536 := by
  obtain ⟨h1, h2⟩ := bounds_u16 h
  obtain ⟨m, rfl⟩ := Int.eq_ofNat_of_zero_le h1
  exact ⟨m, rfl, by omega⟩
end Go.Proofs.Ytmdjgkclbjbdiaa
