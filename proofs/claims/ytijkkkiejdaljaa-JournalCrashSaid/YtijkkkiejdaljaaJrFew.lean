/- How slices of numbers and single bytes that come in read; no condition · How a case of the statements of layer 5 that comes in reads: where a journal lies, and the steps; no condition · The helper of the statements of layer 5 that tells whether a case is gone through; no condition. -/
import Derived.Test.YtijkkkiejdaljaaDevOn
import Derived.Deep.Slices
import Derived.OpenShut
namespace Go.Proofs.Ytijkkkiejdaljaa
open Go.RowKit Go.ChangeShapes Go.WideShapes

theorem isRow_iv {w : World} {a : Option Addr} {len cap : Nat} {zs : List Int} (h : IsRow .i64 w a len cap zs) : ∃ l, Iv w (.slice a len cap) l := by
  rcases h with ⟨rfl, rfl, rfl, rfl⟩ | ⟨x, rfl, hl, hm, hz, hc, hw⟩
  · exact ⟨[], Iv.nil w⟩
  · have hlen : (zs.take len).length = len := by rw [List.length_take]; omega
    refine ⟨zs.take len, some x, cap, by rw [hlen], by rw [hlen]; unfold maxLen at hm; omega, (fun h => by cases h), fun ad had i u hu => ?_, fun u hu => ?_⟩
    · cases had
      have hi := (List.getElem?_eq_some_iff.1 hu).1
      rw [hlen] at hi
      rw [List.getElem?_take_of_lt hi] at hu
      rw [hc i (by omega), List.getD_eq_getElem?_getD, hu]
      rfl
    · exact bounds_i64 (hw u (List.mem_of_mem_take hu))

section
variable {H : Type} {enc : TypeId × Value → H}

theorem byte_of_trod {W : World} {b : Nat} {sp : Nat → Bool} {hd : Bool} {n : Nat} {cs : List Value} {x : DataW H × List MemPlace} (h : DataW.trod enc Try.prog W b sp hd n 5 cs = some x) : ∃ c : UInt8, cs = [bv c] := by
  obtain ⟨m, rfl, _, hw⟩ := DataW.trod_int Try.underlying5 h
  obtain ⟨k, rfl, hk⟩ := wf_u8 hw
  exact ⟨UInt8.ofNat k, by simp [bv]; omega⟩

theorem iv_of_trod {W : World} {n : Nat} {cs : List Value} {x : DataW H × List MemPlace} (h : DataW.trod enc Try.prog W 0 (fun _ => true) true n 34 cs = some x) : ∃ v l, cs = [v] ∧ Iv W v l := by
  rcases open_ints Try.underlying34 Try.underlying3 (by kernel_rfl) h with ⟨hcs, _⟩ | ⟨a, l, c, zs, hcs, _, hl, hm, hz, _, hcell, hwz⟩
  · exact ⟨_, _, hcs, Iv.nil W⟩
  · have hr : IsRow .i64 W (some a) l c zs := .inr ⟨_, rfl, hl, hm, by simpa using hz, hcell, hwz⟩
    obtain ⟨ls, hi⟩ := isRow_iv hr
    exact ⟨_, ls, hcs, hi⟩

end

open Go.RowKit Go.Maps Go.ChangeShapes Go.WideShapes

/-- A step: what is done, how many bytes, of which letter, is the power turned off, what is picked (as a value, and what it reads as). -/
structure Sp5 where
  o : Int
  n : Nat
  c : UInt8
  off : Bool
  pv : Value
  picks : List Int
instance : Inhabited Sp5 := ⟨⟨0, 0, 0, false, nilSl, []⟩⟩

/-- A slice of steps that reads as these. -/
def S5 (w : World) (v : Value) (ls : List Sp5) : Prop :=
  ∃ a cap, v = .slice a ls.length cap ∧ ls.length ≤ 9223372036854775807 ∧ (a = none → ls = []) ∧ ∀ ad, a = some ad → ∀ (i : Nat) (s : Sp5), ls[i]? = some s →
    (w.cell? (ad.add (i * 5)) = some (.int .i64 s.o) ∧ w.cell? (ad.add (i * 5 + 1)) = some (.int .u16 (s.n : Int)) ∧ w.cell? (ad.add (i * 5 + 2)) = some (.int .u8 (s.c.toNat : Int)) ∧
     w.cell? (ad.add (i * 5 + 3)) = some (.bool s.off) ∧ w.cell? (ad.add (i * 5 + 4)) = some s.pv) ∧ Iv w s.pv s.picks ∧ s.n < 65536

theorem S5.shape {w : World} {v : Value} {ls : List Sp5} (h : S5 w v ls) : ∃ a cap, v = .slice a ls.length cap := let ⟨a, cap, e, _⟩ := h; ⟨a, cap, e⟩
theorem S5.len {w : World} {v : Value} {ls : List Sp5} (h : S5 w v ls) : ls.length ≤ 9223372036854775807 := let ⟨_, _, _, h, _⟩ := h; h
theorem S5.open {w : World} {v : Value} {ls : List Sp5} (h : S5 w v ls) {i : Nat} {s : Sp5} (hs : ls[i]? = some s) : ∃ g o cap, v = .slice (some ⟨g, o, none⟩) ls.length cap ∧ g < w.heap.size ∧
    (w.cell? ⟨g, o + i * 5, none⟩ = some (.int .i64 s.o) ∧ w.cell? ⟨g, o + i * 5 + 1, none⟩ = some (.int .u16 (s.n : Int)) ∧ w.cell? ⟨g, o + i * 5 + 2, none⟩ = some (.int .u8 (s.c.toNat : Int)) ∧
     w.cell? ⟨g, o + i * 5 + 3, none⟩ = some (.bool s.off) ∧ w.cell? ⟨g, o + i * 5 + 4, none⟩ = some s.pv) ∧ Iv w s.pv s.picks ∧ s.n < 65536 := by
  obtain ⟨a, cap, rfl, h1, h2, h3⟩ := h
  rcases a with _ | ⟨g, o, sp⟩
  · rw [h2 rfl] at hs
    simp at hs
  · obtain ⟨⟨c0, c1, c2, c3, c4⟩, hi, hn⟩ := h3 _ rfl i s hs
    have hlt := (List.getElem?_eq_some_iff.1 hs).1
    have hsp : sp = none := by
      obtain ⟨⟨d0, _⟩, _⟩ := h3 _ rfl 0 ls[0] (List.getElem?_eq_getElem (by omega))
      simpa [Addr.add] using World.cell?_spot d0
    subst hsp
    rw [Addr.add_lit] at c0 c1 c2 c3 c4
    rw [← Nat.add_assoc] at c1 c2 c3 c4
    exact ⟨g, o, cap, rfl, World.block_lt_of_cell? w _ c0, ⟨c0, c1, c2, c3, c4⟩, hi, hn⟩

/-- A case. -/
structure Case where
  from_ : UInt8
  size : UInt8
  at_ : UInt8
  seq : Nat
  lv : Value
  L : List Sp5
abbrev caseL (x : Case) : List Value := [.int .u8 (x.from_.toNat : Int), .int .u8 (x.size.toNat : Int), .int .u8 (x.at_.toNat : Int), .int .u64 (x.seq : Int), x.lv]
abbrev caseV (x : Case) : Value := .agg #[.int .u8 (x.from_.toNat : Int), .int .u8 (x.size.toNat : Int), .int .u8 (x.at_.toNat : Int), .int .u64 (x.seq : Int), x.lv]
/-- It reads so. -/
def CaseIn (w : World) (x : Case) : Prop := S5 w x.lv x.L ∧ x.seq < 18446744073709551616

section
variable {H : Type} {enc : TypeId × Value → H}

set_option maxRecDepth 100000 in
theorem s5_of_trod {W : World} {n : Nat} {v : Value} {x : DataW H × List MemPlace} (h : DataW.trod enc Try.prog W 0 (fun _ => true) true n 23 [v] = some x) : ∃ ls, S5 W v ls := by
  rcases Deep.open_slice Try.underlying23 h with ⟨hcs, _⟩ | ⟨a, len, cap, m, k, D, Pl, hcs, _, hl, hm, hmm, _, hx⟩
  · simp at hcs
    subst hcs
    exact ⟨[], none, 0, rfl, by simp, fun _ => rfl, fun _ h => by cases h⟩
  · simp at hcs
    subst hcs
    simp only [if_true] at hmm
    subst hmm
    have c5 : Try.prog.cellsOf 36 = 5 := by kernel_rfl
    have ci : Try.prog.cellsOf 3 = 1 := by kernel_rfl
    have cn : Try.prog.cellsOf 33 = 1 := by kernel_rfl
    have cu : Try.prog.cellsOf 5 = 1 := by kernel_rfl
    have cb : Try.prog.cellsOf 4 = 1 := by kernel_rfl
    have cv : Try.prog.cellsOf 34 = 1 := by kernel_rfl
    rw [c5] at hx
    obtain ⟨f, hf⟩ := Deep.choose_lt (α := Sp5) (n := len) (p := fun i s =>
      (W.cell? (a.add (i * 5)) = some (.int .i64 s.o) ∧ W.cell? (a.add (i * 5 + 1)) = some (.int .u16 (s.n : Int)) ∧ W.cell? (a.add (i * 5 + 2)) = some (.int .u8 (s.c.toNat : Int)) ∧
       W.cell? (a.add (i * 5 + 3)) = some (.bool s.off) ∧ W.cell? (a.add (i * 5 + 4)) = some s.pv) ∧ Iv W s.pv s.picks ∧ s.n < 65536) fun i hi => by
      obtain ⟨cs', h1, h2⟩ := hx i (by omega)
      obtain ⟨_, hlen, hcell⟩ := World.cells?_some h1
      obtain ⟨xs, k', _, _, _, hxl, hxs⟩ := DataW.trod_struct Try.underlying36 h2
      have hxl' : xs.length = 5 := hxl
      match cs', hlen with
      | [u0, u1, u2, u3, u4], _ =>
        have g0 : DataW.trod enc Try.prog W 0 (fun _ => true) true k' 3 ((List.drop 0 [u0, u1, u2, u3, u4]).take (Try.prog.cellsOf 3)) = xs[0]? := hxs 0 _ rfl
        have g1 : DataW.trod enc Try.prog W 0 (fun _ => true) true k' 33 ((List.drop 1 [u0, u1, u2, u3, u4]).take (Try.prog.cellsOf 33)) = xs[1]? := hxs 1 _ rfl
        have g2 : DataW.trod enc Try.prog W 0 (fun _ => true) true k' 5 ((List.drop 2 [u0, u1, u2, u3, u4]).take (Try.prog.cellsOf 5)) = xs[2]? := hxs 2 _ rfl
        have g3 : DataW.trod enc Try.prog W 0 (fun _ => true) true k' 4 ((List.drop 3 [u0, u1, u2, u3, u4]).take (Try.prog.cellsOf 4)) = xs[3]? := hxs 3 _ rfl
        have g4 : DataW.trod enc Try.prog W 0 (fun _ => true) true k' 34 ((List.drop 4 [u0, u1, u2, u3, u4]).take (Try.prog.cellsOf 34)) = xs[4]? := hxs 4 _ rfl
        rw [List.getElem?_eq_getElem (by omega)] at g0 g1 g2 g3 g4
        rw [ci] at g0
        rw [cn] at g1
        rw [cu] at g2
        rw [cb] at g3
        rw [cv] at g4
        obtain ⟨n0, e0, _, w0⟩ := DataW.trod_int Try.underlying3 g0
        obtain ⟨n1, e1, _, w1⟩ := DataW.trod_int Try.underlying33 g1
        obtain ⟨m1, rfl, hm1⟩ := wf_u16 w1
        obtain ⟨b2, e2⟩ := byte_of_trod g2
        obtain ⟨b3, e3, _⟩ := DataW.trod_bool Try.underlying4 g3
        obtain ⟨v4, l4, e4, i4⟩ := iv_of_trod g4
        simp at e0 e1 e2 e3 e4
        have k0 := hcell 0 (by omega)
        have k1 := hcell 1 (by omega)
        have k2 := hcell 2 (by omega)
        have k3 := hcell 3 (by omega)
        have k4 := hcell 4 (by omega)
        rw [Addr.add_add] at k0 k1 k2 k3 k4
        refine ⟨⟨n0, m1, b2, b3, v4, l4⟩, ⟨?_, ?_, ?_, ?_, ?_⟩, i4, hm1⟩
        · simpa [e0] using k0
        · simpa [e1] using k1
        · simpa [e2, bv] using k2
        · simpa [e3] using k3
        · simpa [e4] using k4
    have hmax : len ≤ 9223372036854775807 := by unfold maxLen at hm; omega
    refine ⟨(List.range len).map f, some a, m, by simp, by simpa using hmax, (fun h => by cases h), fun ad had i p hi => ?_⟩
    cases had
    have hlt : i < len := by
      have := (List.getElem?_eq_some_iff.1 hi).1
      simpa using this
    have e : p = f i := by simpa [hlt] using hi.symm
    rw [e]
    exact hf i hlt

set_option maxRecDepth 100000 in
theorem case_of_trod {W : World} {n : Nat} {cs : Array Value} {x : DataW H × List MemPlace} (h : DataW.trod enc Try.prog W 0 (fun _ => true) true n 25 cs.toList = some x) : ∃ y, cs.toList = caseL y ∧ CaseIn W y := by
  have cu : Try.prog.cellsOf 5 = 1 := by kernel_rfl
  have cq : Try.prog.cellsOf 22 = 1 := by kernel_rfl
  have cs1 : Try.prog.cellsOf 23 = 1 := by kernel_rfl
  have c5 : Try.prog.cellsOf 25 = 5 := by kernel_rfl
  obtain ⟨xs, k', _, _, hlen, hxl, hxs⟩ := DataW.trod_struct Try.underlying25 h
  rw [c5] at hlen
  have hxl' : xs.length = 5 := hxl
  obtain ⟨l, hl⟩ : ∃ l, cs.toList = l := ⟨_, rfl⟩
  rw [hl] at hlen hxs ⊢
  match l, hlen with
  | [u0, u1, u2, u3, u4], _ =>
    have g0 : DataW.trod enc Try.prog W 0 (fun _ => true) true k' 5 ((List.drop 0 [u0, u1, u2, u3, u4]).take (Try.prog.cellsOf 5)) = xs[0]? := hxs 0 _ rfl
    have g1 : DataW.trod enc Try.prog W 0 (fun _ => true) true k' 5 ((List.drop 1 [u0, u1, u2, u3, u4]).take (Try.prog.cellsOf 5)) = xs[1]? := hxs 1 _ rfl
    have g2 : DataW.trod enc Try.prog W 0 (fun _ => true) true k' 5 ((List.drop 2 [u0, u1, u2, u3, u4]).take (Try.prog.cellsOf 5)) = xs[2]? := hxs 2 _ rfl
    have g3 : DataW.trod enc Try.prog W 0 (fun _ => true) true k' 22 ((List.drop 3 [u0, u1, u2, u3, u4]).take (Try.prog.cellsOf 22)) = xs[3]? := hxs 3 _ rfl
    have g4 : DataW.trod enc Try.prog W 0 (fun _ => true) true k' 23 ((List.drop 4 [u0, u1, u2, u3, u4]).take (Try.prog.cellsOf 23)) = xs[4]? := hxs 4 _ rfl
    rw [List.getElem?_eq_getElem (by omega)] at g0 g1 g2 g3 g4
    rw [cu] at g0 g1 g2
    rw [cq] at g3
    rw [cs1] at g4
    obtain ⟨b0, e0⟩ := byte_of_trod g0
    obtain ⟨b1, e1⟩ := byte_of_trod g1
    obtain ⟨b2, e2⟩ := byte_of_trod g2
    obtain ⟨n3, e3, _, w3⟩ := DataW.trod_int Try.underlying22 g3
    obtain ⟨m3, rfl, hm3⟩ := wf_u64 w3
    obtain ⟨ls, h4⟩ := s5_of_trod (v := u4) (by simpa using g4)
    simp at e0 e1 e2 e3
    refine ⟨⟨b0, b1, b2, m3, u4, ls⟩, ?_, h4, hm3⟩
    simp [caseL, e0, e1, e2, e3, bv]
end

open Go.RowKit Go.Maps

theorem bsArg_of_trod {H : Type} {enc : TypeId × Value → H} {W : World} {n : Nat} {v : Value} {x : DataW H × List MemPlace} (h : DataW.trod enc Try.prog W 0 (fun _ => true) true n 37 [v] = some x) : ∃ l, Bs W v l := by
  rcases open_ints Try.underlying37 Try.underlying5 (by kernel_rfl) h with ⟨hcs, _⟩ | ⟨a, l, c, zs, hcs, _, hl, hm, hz, _, hcell, hwz⟩
  · simp at hcs
    subst hcs
    exact ⟨[], Bs.nil W⟩
  · simp at hcs
    subst hcs
    exact isRow_bs (zs := zs) (.inr ⟨_, rfl, hl, hm, by simpa using hz, hcell, hwz⟩)

theorem S5.below {w w' : World} {v : Value} {ls : List Sp5} (h : S5 w v ls) (hb : Below w.heap.size w w') : S5 w' v ls := by
  obtain ⟨a, cap, rfl, h1, h2, h3⟩ := h
  refine ⟨a, cap, rfl, h1, h2, fun ad had i s hs => ?_⟩
  obtain ⟨⟨c0, c1, c2, c3, c4⟩, hi, hn⟩ := h3 ad had i s hs
  have k : ∀ (p : Addr) (u : Value), w.cell? p = some u → w'.cell? p = some u := fun p u hu => (hb.cell (p := p) (World.block_lt_of_cell? w p hu)).trans hu
  exact ⟨⟨k _ _ c0, k _ _ c1, k _ _ c2, k _ _ c3, k _ _ c4⟩, hi.kept fun q _ _ hq => hb.block q hq, hn⟩
theorem CaseIn.below {w w' : World} {x : Case} (h : CaseIn w x) (hb : Below w.heap.size w w') : CaseIn w' x := ⟨h.1.below hb, h.2⟩

/-- What few answers. -/
def Fews (w : World) (P : Prop) (e : Ending) (w' : World) : Prop := ∃ B, e = .returned (.bool B) ∧ (B = true → P) ∧ Below w.heap.size w w'

/-- A case that is gone through. -/
def FewOk (x : Case) : Prop := x.L.length ≤ 60 ∧ x.seq ≤ 2305843009213693952 ∧ ∀ s ∈ x.L, s.picks.length ≤ 100

set_option maxRecDepth 100000 in
set_option maxHeartbeats 1000000 in
theorem few_any (x : Case) (w : World) (hx : CaseIn w x) : Calls Try.prog 7 #[caseV x] w (Fews w (FewOk x)) := by
  obtain ⟨fr, sz, a, sq, lv, L⟩ := x
  obtain ⟨hS, hq⟩ := hx
  simp only at hS hq
  obtain ⟨la, lc, rfl⟩ := hS.shape
  have hb := (Below.refl w.heap.size w).alloc (Nat.le_refl _) (.cells #[.int .u8 (fr.toNat : Int), .int .u8 (sz.toNat : Int), .int .u8 (a.toNat : Int), .int .u64 (sq : Int), .slice la L.length lc] 25)
  have H := Lib.hid (And.intro (hS.below hb) hb)
  have hlen := hS.len
  have hlen' : (L.length : Int) ≤ 9223372036854775807 := by omega
  clear hS hb hlen
  unfold FewOk
  simp only
  by_cases h1 : 60 < L.length
  · have h1' : (60 : Int) < (L.length : Int) := by omega
    clear h1
    go_enter Try.func7, Try.ntmps7
    go_wp2
    go_ret
    exact ⟨_, rfl, fun e => (by cases e), H.out.2⟩
  have h1' : (L.length : Int) ≤ 60 := by omega
  by_cases h2 : 2305843009213693952 < sq
  · have h2' : (2305843009213693952 : Int) < (sq : Int) := by omega
    clear h1 h2
    go_enter Try.func7, Try.ntmps7
    go_wp2
    go_ret
    exact ⟨_, rfl, fun e => (by cases e), H.out.2⟩
  have h2' : (sq : Int) ≤ 2305843009213693952 := by omega
  have HB := Lib.hid (And.intro (show L.length ≤ 60 by omega) (show sq ≤ 2305843009213693952 by omega))
  clear h1 h2
  go_enter Try.func7, Try.ntmps7
  go_wp2
  go_loopw [3] (fun i wr => ∃ r : Nat, r ≤ L.length ∧ i = .int .i64 (r : Int) ∧ (∀ k s, k < r → L[k]? = some s → s.picks.length ≤ 100) ∧ w.alloc (.cells #[.int .u8 (fr.toNat : Int), .int .u8 (sz.toNat : Int), .int .u8 (a.toNat : Int), .int .u64 (sq : Int), .slice la L.length lc] 25) = wr) (fun i _ => L.length - (intOf i).toNat)
  case atStart => exact ⟨0, by omega, rfl, fun k s hk => by omega, rfl⟩
  case round =>
    obtain ⟨r, hr, rfl, hall, rfl⟩ := hrel
    by_cases hlt : r < L.length
    · have hlt' : (r : Int) < (L.length : Int) := by omega
      have hr0 : (0 : Int) ≤ (r : Int) := by omega
      obtain ⟨s, hs⟩ : ∃ s, L[r]? = some s := ⟨_, List.getElem?_eq_getElem hlt⟩
      obtain ⟨g, o, cap, e, _, ⟨_, _, _, _, c4⟩, hi, _⟩ := H.out.1.open hs
      simp only [Value.slice.injEq] at e
      obtain ⟨rfl, _, rfl⟩ := e
      obtain ⟨pa, pc, hpv⟩ := hi.shape
      obtain ⟨so, sn, sc, soff, pv, picks⟩ := s
      simp only at hpv c4
      subst hpv
      have hpl : (picks.length : Int) ≤ 9223372036854775807 := by
        obtain ⟨_, _, _, h, _⟩ := hi
        simp only at h
        omega
      have HS := Lib.hid (And.intro hs hall)
      clear hs hall hi
      by_cases hp : 100 < picks.length
      · have hp' : (100 : Int) < (picks.length : Int) := by omega
        clear hp
        go_wp2
        go_ret
        exact ⟨_, rfl, fun e => (by cases e), H.out.2⟩
      · have hp' : (picks.length : Int) ≤ 100 := by omega
        have HP := Lib.hid (show picks.length ≤ 100 by omega)
        clear hp
        go_wp2
        go_roundw
        case rel =>
          refine ⟨r + 1, by omega, by go_num, fun k s hk hsk => ?_, by first | rfl | trivial⟩
          by_cases hkr : k = r
          · subst hkr
            rw [HS.out.1] at hsk
            cases hsk
            exact HP.out
          · exact HS.out.2 k s (by omega) hsk
        case measure => simp [intOf]; omega
    · obtain rfl : r = L.length := by omega
      have HA := Lib.hid hall
      clear hall
      go_wp2
      go_ret
      refine ⟨_, rfl, fun _ => ⟨HB.out.1, HB.out.2, fun s hs => ?_⟩, H.out.2⟩
      obtain ⟨k, hk, he⟩ := List.getElem_of_mem hs
      exact HA.out k s hk (by rw [List.getElem?_eq_getElem hk, he])
end Go.Proofs.Ytijkkkiejdaljaa
