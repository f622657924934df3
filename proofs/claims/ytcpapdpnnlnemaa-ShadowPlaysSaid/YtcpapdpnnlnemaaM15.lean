/- How a slice of steps of the statements of layer 8 that is handed in reads; no condition. · The helper heavy of the statements of layer 8; condition: the steps lie in memory. -/
import Derived.Test.YtcpapdpnnlnemaaM08
import Derived.SizedLaws
import Derived.Test.YtcpapdpnnlnemaaM16
import Derived.BigQuiet
namespace Go.Proofs.Ytcpapdpnnlnemaa
open Go.RowKit Go.Maps Go.ChangeShapes Go.WideShapes

/-- A step: what is done, a generation, a body, a number, a place, what is turned there, what is picked. -/
structure Stp where
  o : Int
  gen : Nat
  bv : Value
  b : Bytes
  n : Int
  at_ : Nat
  t : UInt8
  pv : Value
  picks : List Int
instance : Inhabited Stp := ⟨⟨0, 0, .slice none 0 0, [], 0, 0, 0, .slice none 0 0, []⟩⟩

abbrev Stp.val (s : Stp) : Value := .agg #[.int .i64 s.o, .int .u64 (s.gen : Int), s.bv, .int .i64 s.n, .int .u16 (s.at_ : Int), .int .u8 (s.t.toNat : Int), s.pv]
abbrev Stp.cells (s : Stp) : List Value := [.int .i64 s.o, .int .u64 (s.gen : Int), s.bv, .int .i64 s.n, .int .u16 (s.at_ : Int), .int .u8 (s.t.toNat : Int), s.pv]
/-- What a step's parts read as. -/
structure Stp.In (w : World) (s : Stp) : Prop where
  body : Bs w s.bv s.b
  picks : Iv w s.pv s.picks
  gen : s.gen < 18446744073709551616
  low : -9223372036854775808 ≤ s.n
  high : s.n ≤ 9223372036854775807
  at_ : s.at_ < 65536
  blen : s.b.length ≤ 140737488355328
  plen : s.picks.length ≤ 140737488355328
theorem Stp.In.below {w w' : World} {s : Stp} (h : s.In w) (hb : Below w.heap.size w w') : s.In w' := ⟨h.body.below hb, h.picks.kept fun q _ _ hq => hb.block q hq, h.gen, h.low, h.high, h.at_, h.blen, h.plen⟩

/-- A slice of steps that reads as these. -/
def Sv (w : World) (v : Value) (ls : List Stp) : Prop :=
  ∃ a cap, v = .slice a ls.length cap ∧ ls.length ≤ 9223372036854775807 ∧ (a = none → ls = []) ∧ ∀ ad, a = some ad → ∀ (i : Nat) (s : Stp), ls[i]? = some s →
    (∀ (j : Nat) (u : Value), s.cells[j]? = some u → w.cell? (ad.add (i * 7 + j)) = some u) ∧ s.In w

theorem Sv.shape {w : World} {v : Value} {ls : List Stp} (h : Sv w v ls) : ∃ a cap, v = .slice a ls.length cap := let ⟨a, cap, e, _⟩ := h; ⟨a, cap, e⟩
theorem Sv.len {w : World} {v : Value} {ls : List Stp} (h : Sv w v ls) : ls.length ≤ 9223372036854775807 := let ⟨_, _, _, h, _⟩ := h; h
theorem Sv.open {w : World} {v : Value} {ls : List Stp} (h : Sv w v ls) {i : Nat} {s : Stp} (hs : ls[i]? = some s) : ∃ g o cap, v = .slice (some ⟨g, o, none⟩) ls.length cap ∧ g < w.heap.size ∧
    (∀ (j : Nat) (u : Value), s.cells[j]? = some u → w.cell? ⟨g, o + i * 7 + j, none⟩ = some u) ∧ s.In w := by
  obtain ⟨a, cap, rfl, h1, h2, h3⟩ := h
  rcases a with _ | ⟨g, o, sp⟩
  · rw [h2 rfl] at hs
    simp at hs
  · obtain ⟨hc, hi⟩ := h3 _ rfl i s hs
    have hc0 := hc 0 _ rfl
    have hlt := (List.getElem?_eq_some_iff.1 hs).1
    have hsp : sp = none := by
      have hd := (h3 _ rfl 0 ls[0] (List.getElem?_eq_getElem (by omega))).1 0 _ rfl
      simpa [Addr.add] using World.cell?_spot hd
    subst hsp
    rw [Addr.add_lit] at hc0
    refine ⟨g, o, cap, rfl, World.block_lt_of_cell? w _ hc0, fun j u hu => ?_, hi⟩
    have := hc j u hu
    rw [Addr.add_lit, ← Nat.add_assoc] at this
    exact this

section
variable {H : Type} {enc : TypeId × Value → H}

theorem weightsAll_mem {P : Program} {e : TypeId} {d : DataW H} : ∀ {ds : List (DataW H)}, d ∈ ds → ∀ n ∈ d.weights P e, n ∈ DataW.weightsAll P e ds
  | d0 :: ds, hd, n, hn => by
    simp only [DataW.weightsAll, List.mem_append]
    rcases List.mem_cons.1 hd with rfl | hd
    · exact Or.inl hn
    · exact Or.inr (weightsAll_mem hd n hn)
theorem bytes_one : Try.prog.bytesOf 5 = 1 := by kernel_rfl
theorem bytes_eight : Try.prog.bytesOf 3 = 8 := by kernel_rfl

theorem bsB_of_trod {W : World} {n : Nat} {v : Value} {x : DataW H × List MemPlace} (h : DataW.trod enc Try.prog W 0 (fun _ => true) true n 33 [v] = some x)
    (hw : ∀ n ∈ x.1.weights Try.prog 33, n ≤ reachBytes) : ∃ l, Bs W v l ∧ l.length ≤ 140737488355328 := by
  rcases open_ints Try.underlying33 Try.underlying5 (by kernel_rfl) h with ⟨hcs, _⟩ | ⟨a, l, c, zs, hcs, _, hl, hm, hz, hx, hcell, hwz⟩
  · simp at hcs
    subst hcs
    exact ⟨[], Bs.nil W, Nat.zero_le _⟩
  · simp at hcs
    subst hcs
    subst hx
    simp only [if_true] at hz
    obtain ⟨m, hm'⟩ := isRow_bs (zs := zs) (.inr ⟨_, rfl, hl, hm, by simpa using hz, hcell, hwz⟩)
    refine ⟨m, hm', ?_⟩
    have hlm : m.length = l := by
      obtain ⟨a', cap', he, _⟩ := hm'
      simp only [Value.slice.injEq] at he
      exact he.2.1.symm
    have := hw ((lits .u8 (zs.take l)).length * 1 + (lits .u8 (zs.drop l)).length * 1) (by
      simp only [DataW.weights, Try.underlying33, bytes_one]
      rw [← Nat.add_mul]
      exact List.mem_cons_self)
    simp only [lits, List.length_map, List.length_take, List.length_drop, reachBytes] at this
    omega
theorem ivB_of_trod {W : World} {n : Nat} {v : Value} {x : DataW H × List MemPlace} (h : DataW.trod enc Try.prog W 0 (fun _ => true) true n 35 [v] = some x)
    (hw : ∀ n ∈ x.1.weights Try.prog 35, n ≤ reachBytes) : ∃ l, Iv W v l ∧ l.length ≤ 140737488355328 := by
  rcases open_ints Try.underlying35 Try.underlying3 (by kernel_rfl) h with ⟨hcs, _⟩ | ⟨a, l, c, zs, hcs, _, hl, hm, hz, hx, hcell, hwz⟩
  · simp at hcs
    subst hcs
    exact ⟨[], Iv.nil W, Nat.zero_le _⟩
  · simp at hcs
    subst hcs
    subst hx
    simp only [if_true] at hz
    have hr : IsRow .i64 W (some a) l c zs := .inr ⟨_, rfl, hl, hm, by simpa using hz, hcell, hwz⟩
    obtain ⟨m, hm'⟩ := isRow_iv hr
    refine ⟨m, hm', ?_⟩
    have hlm : m.length = l := by
      obtain ⟨a', cap', he, _⟩ := hm'
      simp only [Value.slice.injEq] at he
      exact he.2.1.symm
    have := hw ((lits .i64 (zs.take l)).length * 8 + (lits .i64 (zs.drop l)).length * 8) (by
      simp only [DataW.weights, Try.underlying35, bytes_eight]
      rw [← Nat.add_mul]
      exact List.mem_cons_self)
    simp only [lits, List.length_map, List.length_take, List.length_drop, reachBytes] at this
    omega

set_option maxRecDepth 100000 in
theorem sv_of_trod {W : World} {n : Nat} {v : Value} {x : DataW H × List MemPlace} (h : DataW.trod enc Try.prog W 0 (fun _ => true) true n 22 [v] = some x)
    (hw : ∀ n ∈ x.1.weights Try.prog 22, n ≤ reachBytes) : ∃ ls, Sv W v ls := by
  rcases Deep.open_slice Try.underlying22 h with ⟨hcs, _⟩ | ⟨a, len, cap, m, k, D, Pl, hcs, _, hl, hm, hmm, hd, hx⟩
  · simp at hcs
    subst hcs
    exact ⟨[], none, 0, rfl, by simp, fun _ => rfl, fun _ h => by cases h⟩
  · simp at hcs
    subst hcs
    simp only [if_true] at hmm
    subst hmm
    subst hd
    have hwi : ∀ i, i < len → ∀ z ∈ (D i).weights Try.prog 37, z ≤ reachBytes := fun i hi z hz => hw z (by
      simp only [DataW.weights, Try.underlying22]
      refine List.mem_cons_of_mem _ (List.mem_append_left _ (weightsAll_mem (d := D i) ?_ z hz))
      exact List.mem_map.2 ⟨i, List.mem_range.2 hi, rfl⟩)
    have c7 : Try.prog.cellsOf 37 = 7 := by kernel_rfl
    have ci : Try.prog.cellsOf 3 = 1 := by kernel_rfl
    have cq : Try.prog.cellsOf 32 = 1 := by kernel_rfl
    have ch : Try.prog.cellsOf 34 = 1 := by kernel_rfl
    have cu : Try.prog.cellsOf 5 = 1 := by kernel_rfl
    have cb : Try.prog.cellsOf 33 = 1 := by kernel_rfl
    have cv : Try.prog.cellsOf 35 = 1 := by kernel_rfl
    rw [c7] at hx
    obtain ⟨f, hf⟩ := Deep.choose_lt (α := Stp) (n := len) (p := fun i s =>
      (∀ (j : Nat) (u : Value), s.cells[j]? = some u → W.cell? (a.add (i * 7 + j)) = some u) ∧ s.In W) fun i hi => by
      obtain ⟨cs', h1, h2⟩ := hx i (by omega)
      obtain ⟨_, hlen, hcell⟩ := World.cells?_some h1
      obtain ⟨xs, k', _, hD, _, hxl, hxs⟩ := DataW.trod_struct Try.underlying37 h2
      have hxl' : xs.length = 7 := hxl
      have hD1 : D i = .agg (xs.map (·.1)) := congrArg Prod.fst hD
      have hwd := hwi i hi
      rw [hD1] at hwd
      match cs', hlen with
      | [u0, u1, u2, u3, u4, u5, u6], _ =>
        have g0 : DataW.trod enc Try.prog W 0 (fun _ => true) true k' 3 ((List.drop 0 [u0, u1, u2, u3, u4, u5, u6]).take (Try.prog.cellsOf 3)) = xs[0]? := hxs 0 _ rfl
        have g1 : DataW.trod enc Try.prog W 0 (fun _ => true) true k' 32 ((List.drop 1 [u0, u1, u2, u3, u4, u5, u6]).take (Try.prog.cellsOf 32)) = xs[1]? := hxs 1 _ rfl
        have g2 : DataW.trod enc Try.prog W 0 (fun _ => true) true k' 33 ((List.drop 2 [u0, u1, u2, u3, u4, u5, u6]).take (Try.prog.cellsOf 33)) = xs[2]? := hxs 2 _ rfl
        have g3 : DataW.trod enc Try.prog W 0 (fun _ => true) true k' 3 ((List.drop 3 [u0, u1, u2, u3, u4, u5, u6]).take (Try.prog.cellsOf 3)) = xs[3]? := hxs 3 _ rfl
        have g4 : DataW.trod enc Try.prog W 0 (fun _ => true) true k' 34 ((List.drop 4 [u0, u1, u2, u3, u4, u5, u6]).take (Try.prog.cellsOf 34)) = xs[4]? := hxs 4 _ rfl
        have g5 : DataW.trod enc Try.prog W 0 (fun _ => true) true k' 5 ((List.drop 5 [u0, u1, u2, u3, u4, u5, u6]).take (Try.prog.cellsOf 5)) = xs[5]? := hxs 5 _ rfl
        have g6 : DataW.trod enc Try.prog W 0 (fun _ => true) true k' 35 ((List.drop 6 [u0, u1, u2, u3, u4, u5, u6]).take (Try.prog.cellsOf 35)) = xs[6]? := hxs 6 _ rfl
        rw [ci] at g0 g3
        rw [cq] at g1
        rw [cb] at g2
        rw [ch] at g4
        rw [cu] at g5
        rw [cv] at g6
        have w2 : ∀ z ∈ (xs[2]'(by omega)).1.weights Try.prog 33, z ≤ reachBytes := fun z hz => hwd z (by
          simp only [DataW.weights, Try.underlying37]
          exact DataW.weights_mem_each (j := 2) rfl (by rw [List.getElem?_map, List.getElem?_eq_getElem (by omega)]; rfl) z hz)
        have w6 : ∀ z ∈ (xs[6]'(by omega)).1.weights Try.prog 35, z ≤ reachBytes := fun z hz => hwd z (by
          simp only [DataW.weights, Try.underlying37]
          exact DataW.weights_mem_each (j := 6) rfl (by rw [List.getElem?_map, List.getElem?_eq_getElem (by omega)]; rfl) z hz)
        rw [List.getElem?_eq_getElem (by omega)] at g0 g1 g2 g3 g4 g5 g6
        obtain ⟨n0, e0, _, _⟩ := DataW.trod_int Try.underlying3 g0
        obtain ⟨n1, e1, _, v1⟩ := DataW.trod_int Try.underlying32 g1
        obtain ⟨m1, rfl, hm1⟩ := wf_u64 v1
        obtain ⟨l2, i2, hl2⟩ := bsB_of_trod (v := u2) (by simpa using g2) w2
        obtain ⟨n3, e3, _, v3⟩ := DataW.trod_int Try.underlying3 g3
        obtain ⟨n4, e4, _, v4⟩ := DataW.trod_int Try.underlying34 g4
        obtain ⟨m4, rfl, hm4⟩ := wf_u16 v4
        obtain ⟨b5, e5⟩ := byte_of_trod g5
        obtain ⟨l6, i6, hl6⟩ := ivB_of_trod (v := u6) (by simpa using g6) w6
        simp at e0 e1 e3 e4 e5
        refine ⟨⟨n0, m1, u2, l2, n3, m4, b5, u6, l6⟩, fun j u hu => ?_, ⟨i2, i6, hm1, (bounds_i64 v3).1, (bounds_i64 v3).2, hm4, hl2, hl6⟩⟩
        have hj : j < 7 := by
          have := (List.getElem?_eq_some_iff.1 hu).1
          simpa [Stp.cells] using this
        have k := hcell j hj
        rw [Addr.add_add] at k
        rw [k, ← hu]
        match j, hj with
        | 0, _ => simp [e0]
        | 1, _ => simp [e1]
        | 2, _ => simp
        | 3, _ => simp [e3]
        | 4, _ => simp [e4]
        | 5, _ => simp [e5, Go.Proofs.Ytcpapdpnnlnemaa.bv]
        | 6, _ => simp
    have hmax : len ≤ 9223372036854775807 := by unfold maxLen at hm; omega
    refine ⟨(List.range len).map f, some a, m, by simp, by simpa using hmax, (fun h => by cases h), fun ad had i p hi => ?_⟩
    cases had
    have hlt : i < len := by
      have := (List.getElem?_eq_some_iff.1 hi).1
      simpa using this
    have e : p = f i := by simpa [hlt] using hi.symm
    rw [e]
    exact hf i hlt
end
end Go.Proofs.Ytcpapdpnnlnemaa
namespace Go.Proofs.Ytcpapdpnnlnemaa
open Go.RowKit Go.Maps

/-- How many bytes and picks the steps have. -/
def sumS (ls : List Stp) : Nat := (ls.map fun s => s.b.length + s.picks.length).sum
theorem sumS_le {w : World} {ls : List Stp} (h : ∀ s ∈ ls, s.In w) : sumS ls ≤ ls.length * 281474976710656 := by
  induction ls with
  | nil => exact Nat.le_refl _
  | cons s r ih =>
    have h1 := ih fun s hs => h s (List.mem_cons_of_mem _ hs)
    have h2 := h s List.mem_cons_self
    have := h2.blen
    have := h2.plen
    unfold sumS at *
    rw [List.map_cons, List.sum_cons, List.length_cons, Nat.add_mul]
    omega
theorem sumS_mem {ls : List Stp} {s : Stp} (h : s ∈ ls) : s.b.length + s.picks.length ≤ sumS ls := by
  induction ls with
  | nil => cases h
  | cons x r ih =>
    unfold sumS at *
    rw [List.map_cons, List.sum_cons]
    rcases List.mem_cons.1 h with rfl | h
    · omega
    · have := ih h; omega
theorem sumS_step {ls : List Stp} {r : Nat} {s : Stp} (h : ls[r]? = some s) : sumS (ls.take (r + 1)) = sumS (ls.take r) + s.b.length + s.picks.length := by
  have : ls.take (r + 1) = ls.take r ++ [s] := by rw [List.take_add_one, h]; rfl
  rw [this]
  unfold sumS
  simp
  omega

/-- What heavy answers. -/
def Heavies (w : World) (ls : List Stp) (e : Ending) (w' : World) : Prop := ∃ B, e = .returned (.bool B) ∧ Below w.heap.size w w' ∧ (B = false → ls.length ≤ 40 ∧ ∀ s ∈ ls, s.b.length ≤ 20000 ∧ s.picks.length ≤ 20000)

set_option maxRecDepth 100000 in
set_option maxHeartbeats 2000000 in
theorem heavy_any {v : Value} {ls : List Stp} (w : World) (hv : Sv w v ls) : Calls Try.prog 7 #[v] w (Heavies w ls) := by
  obtain ⟨la, lc, rfl⟩ := hv.shape
  have hlen := hv.len
  have hall : ∀ s ∈ ls, s.In w := fun s hs => by
    obtain ⟨i, hi⟩ := List.getElem?_of_mem hs
    obtain ⟨_, _, _, _, _, _, h⟩ := hv.open hi
    exact h
  obtain ⟨n, hn⟩ : ∃ n, ls.length = n := ⟨_, rfl⟩
  have H := Lib.hid (And.intro hv (And.intro hall hn))
  rw [hn] at hlen ⊢
  clear hv hall hn
  go_enter Try.func7, Try.ntmps7
  go_wp2
  go_loopw [3, 4] (fun m i wr => ∃ r : Nat, r ≤ n ∧ r ≤ 100 ∧ m = .int .i64 (sumS (ls.take r) : Int) ∧ i = .int .i64 (r : Int) ∧ Below w.heap.size w wr) (fun _ i _ => n - (intOf i).toNat)
  case atStart => exact ⟨0, Nat.zero_le _, by omega, rfl, rfl, Below.refl _ _⟩
  case round =>
    obtain ⟨r, hr, hr100, rfl, rfl, hb⟩ := hrel
    have hsum : sumS (ls.take r) ≤ 100 * 281474976710656 := by
      have h1 := sumS_le (w := w) (ls := ls.take r) fun s hs => H.out.2.1 s (List.mem_of_mem_take hs)
      have h2 : (ls.take r).length ≤ 100 := by rw [List.length_take]; omega
      exact Nat.le_trans h1 (Nat.mul_le_mul_right _ h2)
    have hsum' : (sumS (ls.take r) : Int) ≤ 28147497671065600 := by omega
    have hs0 : (0 : Int) ≤ (sumS (ls.take r) : Int) := by omega
    by_cases hlt : r < n
    · have hlt' : (r : Int) < (n : Int) := by omega
      have hr0 : (0 : Int) ≤ (r : Int) := by omega
      by_cases h1 : r < 100
      · have h1' : (r : Int) < 100 := by omega
        obtain ⟨s, hs⟩ : ∃ s, ls[r]? = some s := ⟨_, List.getElem?_eq_getElem (by have := H.out.2.2; omega)⟩
        obtain ⟨g, o, cap, e, hg, hc, hi⟩ := H.out.1.open hs
        simp only [Value.slice.injEq] at e
        obtain ⟨rfl, _, rfl⟩ := e
        have hst := sumS_step hs
        have hbl := hi.blen
        have hpl := hi.plen
        have hbl' : (s.b.length : Int) ≤ 140737488355328 := by omega
        have hpl' : (s.picks.length : Int) ≤ 140737488355328 := by omega
        have c2 := (hb.cell (p := ⟨g, o + r * 7 + 2, none⟩) hg).trans (hc 2 _ rfl)
        have c6 := (hb.cell (p := ⟨g, o + r * 7 + 6, none⟩) hg).trans (hc 6 _ rfl)
        obtain ⟨ba, bc, hbv, _⟩ := hi.body.shape
        obtain ⟨pa, pc, hpv⟩ := hi.picks.shape
        rw [hbv] at c2
        rw [hpv] at c6
        have HS := Lib.hid (And.intro hst hb)
        clear hs hc hi hst hbl hpl hbv hpv hb hsum
        obtain ⟨bl, hbl⟩ : ∃ bl, s.b.length = bl := ⟨_, rfl⟩
        obtain ⟨pl, hpl⟩ : ∃ pl, s.picks.length = pl := ⟨_, rfl⟩
        rw [hbl] at c2 hbl'
        rw [hpl] at c6 hpl'
        have HL := Lib.hid (And.intro hbl hpl)
        clear hbl hpl
        generalize hS : sumS (ls.take r) = S at *
        have HSS := Lib.hid hS
        clear hS
        go_wp2_with fail
        go_quiet (fail)
        go_wp2
        go_roundw
        case rel => exact ⟨r + 1, by omega, by omega, by rw [HS.out.1, HL.out.1, HL.out.2]; go_num, by go_num, below_drewN HS.out.2 _⟩
        case measure => simp [intOf]; omega
      · obtain rfl : r = 100 := by omega
        have hbig : (40 : Int) < (n : Int) := by omega
        have HS := Lib.hid hb
        clear hb hsum
        go_wp2
        go_ret
        exact ⟨true, rfl, HS.out, fun h => by cases h⟩
    · obtain rfl : r = n := by omega
      have hfull : ls.take r = ls := List.take_of_length_le (by have := H.out.2.2; omega)
      rw [hfull] at hsum' hs0 ⊢
      have hmem := fun s (hs : s ∈ ls) => sumS_mem hs
      generalize sumS ls = S at *
      have HS := Lib.hid (And.intro hb hmem)
      clear hb hsum hmem hfull
      by_cases h40 : 40 < r
      · have hbig : (40 : Int) < (r : Int) := by omega
        go_wp2
        go_ret
        exact ⟨true, rfl, HS.out.1, fun h => by cases h⟩
      · have hsm : (r : Int) ≤ 40 := by omega
        go_wp2
        go_ret
        refine ⟨_, rfl, HS.out.1, fun h => ⟨by have := H.out.2.2; omega, fun s hs => ?_⟩⟩
        have h1 := HS.out.2 s hs
        have h2 := of_decide_eq_false (Bool.or_eq_false_iff.1 h).2
        omega

theorem own_cells {w0 w : World} {b : Nat} {D : Dv} {Q : World → Prop} (h : Own w0 w b D Q) (cs : Array Value) (T : TypeId) : Own w0 (w.alloc (.cells cs T)) b D (fun W => Q W ∧ Cel W w.heap.size cs.toList T) :=
  h.with ((Below.refl _ _).alloc (Nat.le_refl _) _) (S := fun q => q = w.heap.size) (fun _ hk => (Cel.new w cs T).kept (hk _ rfl)) fun q e => ⟨by omega, by simp [e]⟩
abbrev stepCs (so sn : Int) (sg sat : Nat) (st : UInt8) (bv pv : Value) : Array Value := #[.int .i64 so, .int .u64 (sg : Int), bv, .int .i64 sn, .int .u16 (sat : Int), .int .u8 (st.toNat : Int), pv]
theorem step_get {W : World} {q : Nat} {so sn : Int} {sg sat : Nat} {st : UInt8} {bv pv : Value} {T : TypeId} (h : Cel W q (stepCs so sn sg sat st bv pv).toList T) : W.cell? ⟨q, 2, none⟩ = some bv ∧ W.cell? ⟨q, 3, none⟩ = some (.int .i64 sn) ∧ W.cell? ⟨q, 6, none⟩ = some pv :=
  ⟨by rw [h.cell]; rfl, by rw [h.cell]; rfl, by rw [h.cell]; rfl⟩
end Go.Proofs.Ytcpapdpnnlnemaa
