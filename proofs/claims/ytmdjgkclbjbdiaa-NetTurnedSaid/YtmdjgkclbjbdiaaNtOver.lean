/- What comes to each node, less what goes: the program's Over; no condition. -/
import Derived.Test.YtmdjgkclbjbdiaaNtWithin
import Derived.Test.YtmdjgkclbjbdiaaNtOvPlain
namespace Go.Proofs.Ytmdjgkclbjbdiaa
open Go.RowKit
attribute [local go_sem] Oper.semAt_some

def ivL (l : List Int) : List Value := l.map (.int .i64 ·)
theorem ivL_at {l : List Int} {i : Nat} {x : Int} (h : l[i]? = some x) : (ivL l)[i]? = some (.int .i64 x) := by simp [ivL, h]
theorem ivL_set (l : List Int) (i : Nat) (x : Int) : (ivL l).set i (.int .i64 x) = ivL (l.set i x) := by simp [ivL, List.map_set]
theorem kdI_cells (l : List Int) : kdI.cells l = ivL l := by
  induction l with
  | nil => rfl
  | cons x r ih =>
    unfold Kd.cells ivL at *
    rw [List.flatMap_cons, ih]
    rfl
theorem fs_of_cel {w : World} {B : Nat} {l : List Int} {t : TypeId} (h : Cel w B (ivL l) t) (hl : l.length ≤ 4611686018427387904) {n : Nat} (hn : n = l.length) : Fs w (.slice (some ⟨B, 0, none⟩) n n) l := by
  subst hn
  refine ⟨l, by simp [kdI], ⟨_, l.length, rfl, Nat.le_refl _, by unfold maxLen; omega, (fun h => by cases h), by rw [kdI_cells]; simp [ivL, kdI], fun ad had j u hu => ?_⟩, fun _ _ => trivial, fun _ _ _ h => h⟩
  cases had
  rw [kdI_cells] at hu
  rw [Addr.add_lit, Nat.zero_add, h.cell]
  exact hu

theorem made_ints (n : Nat) : (madeCells (Value.cells (.int .i64 0)) (n * 1)).toList = ivL (List.replicate n 0) := by
  apply List.ext_getElem?
  intro j
  by_cases hj : j < n
  · simp [madeCells, hj, Value.cells, Nat.mod_one, ivL]
  · simp [madeCells, hj, ivL]
theorem int_info : (Try.prog.info? 2).map (fun i => (i.zero, i.size, i.bytes)) = some (some (.int .i64 0), 1, 8) := by kernel_rfl
theorem make_ints (n : Nat) (w : World) (hn : n ≤ 40) : ∃ w1, (Instr.makeSlice 25 (.int .i64 (n : Int)) (.int .i64 (n : Int))).run Try.prog w = .ok (.slice (some ⟨w.heap.size, 0, none⟩) n n) w1 ∧ Cel w1 w.heap.size (ivL (List.replicate n 0)) 2 ∧ Below w.heap.size w w1 := by
  obtain ⟨i0, hi, h⟩ := Option.map_eq_some_iff.1 int_info
  simp only [Prod.mk.injEq] at h
  obtain ⟨hz0, hz1, hz2⟩ := h
  obtain ⟨w1, hmk, o1, g1⟩ := run_make_full (P := Try.prog) w w.heap.size 25 2 i0 (.int .i64 0) 1 Try.underlying25 hi hz0 hz1 .i64 .i64 n (by rw [hz2]; omega) (by unfold maxLen; omega) (Nat.le_refl _)
  refine ⟨w1, hmk, ?_, (Below.refl _ _).grown g1 (Nat.le_refl _) (fun _ h => by cases h)⟩
  rcases o1.2 with ⟨h, _⟩ | ⟨g, cap, cur, hv, _, hg, _, _, hs, ht⟩
  · cases h
  · simp only [Value.slice.injEq, Option.some.injEq, Addr.mk.injEq] at hv
    obtain ⟨⟨rfl, _⟩, _, rfl⟩ := hv
    rw [List.take_of_length_le (by simp [hs])] at ht
    rw [made_ints] at ht
    unfold Cel
    rw [← ht]
    simpa using hg

theorem Rd.wide {τ α : Type} {K : Kd τ α} {w w' : World} {S : Nat → Prop} {v : Value} {l : List α} (h : Rd K w (fun _ => False) v l) (hb : Below w.heap.size w w') (hS : ∀ q, S q → w.heap.size ≤ q) : Rd K w' S v l := ((h.old (Nat.le_refl _)).only (Only.of_below hb _)).less hS

theorem results_slot {P : Program} {fn : Func} {t : Tmp} (h : fn.results = #[.tmp t]) {tmps : Array Value} {w : World} {v : Value} (hv : tmps.getD t undef = v) : (results fn tmps).run P w = .ok v w := by subst hv; simp [results, h]

set_option maxRecDepth 100000 in
set_option maxHeartbeats 4000000 in
theorem over_own (n : Int) (es : List Ed) (fl : List Int) (w : World) {v x : Value} (he : Es w v es) (hf : Fs w x fl) :
    Calls Try.prog 22 #[netV n v, x] w fun e w' => ∃ r, e = .returned r ∧ Fs w' r (overP n es fl) ∧ Below w.heap.size w w' ∧ (WithinP n es fl → ∃ g, r = .slice (some ⟨g, 0, none⟩) n.toNat n.toNat ∧ Cel w' g (ivL (overP n es fl)) 2 ∧ w.heap.size ≤ g) := by
  obtain ⟨va, vc, rfl, -, -⟩ := he.shape
  obtain ⟨xa, xc, rfl, -, -⟩ := hf.shape
  have hb0 : Below w.heap.size w (w.alloc (.cells #[.int .i64 n, .slice va es.length vc] 24)) := (Below.refl _ _).alloc (Nat.le_refl _) _
  have cN := Cel.new w #[.int .i64 n, .slice va es.length vc] 24
  have PW := within_any n es fl _ (he.below hb0) (hf.below hb0)
  obtain ⟨Z, hZ⟩ : ∃ Z, Z = overP n es fl := ⟨_, rfl⟩
  have hZn : ¬ WithinP n es fl → Z = [] := fun h => by rw [hZ]; unfold overP; rw [if_neg h]
  have hZy : WithinP n es fl → Z = overL n (es.zip fl) := fun h => by rw [hZ]; unfold overP; rw [if_pos h]
  rw [← hZ]
  have HZ := Lib.hid (And.intro hZn hZy)
  clear hZ hZn hZy
  have H0 := Lib.hid (And.intro hb0 (And.intro cN (And.intro PW (And.intro he hf))))
  clear he hf hb0 cN PW
  refine ncalls_of_wp_marks 12 Try.func22 rfl ?_
  simp only [Try.ntmps22, List.size_toArray, List.length_cons, List.length_nil, Nat.reduceAdd, Nat.reduceSub, Array.replicate_succ, Array.replicate_zero, List.push_toArray, List.append_toArray, List.nil_append, List.cons_append]
  go_wp2_with fail
  generalize w.alloc (.cells #[.int .i64 n, .slice va es.length vc] 24) = wn at *
  refine H0.out.2.2.1.mono ?_
  rintro e1 w1 ⟨rfl, b1⟩
  obtain ⟨hb0, cN, -, he, hf⟩ := H0.out
  have hb1 := hb0.trans (b1.mono hb0.size)
  have cN1 := cN.below b1 cN.lt
  clear H0 cN hb0 b1
  by_cases hw : WithinP n es fl
  case neg =>
    rw [decide_eq_false hw]
    obtain rfl := HZ.out.1 hw
    have HW := Lib.hid (And.intro hb1 hw)
    clear hw hb1 he hf cN1
    go_wp2
    exact ⟨_, results_slot rfl rfl, _, rfl, Rd.nil _ _ _, HW.out.1, fun h => absurd h HW.out.2⟩
  rw [decide_eq_true hw]
  have hZ := HZ.out.2 hw
  clear HZ
  obtain ⟨m, rfl⟩ : ∃ m : Nat, n = (m : Int) := ⟨n.toNat, by have := hw.1.1; omega⟩
  have hm : m ≤ 40 := by have := hw.1.2.1; omega
  obtain ⟨w2, hmk, cB, b2⟩ := make_ints m w1 hm
  have hmlt : w1.heap.size < w2.heap.size := cB.lt
  obtain ⟨n0, n1⟩ := cN1.net
  obtain ⟨n0', n1'⟩ := ((cN1.below b2 cN1.lt).alloc (.cells #[.slice (some ⟨w1.heap.size, 0, none⟩) m m] 25)).net
  have hb2 := hb1.trans (b2.mono hb1.size)
  have c5 := Cel.new w2 #[.slice (some ⟨w1.heap.size, 0, none⟩) m m] 25
  have H1 := Lib.hid (And.intro hw (And.intro hZ (And.intro hm (And.intro he (And.intro hf (And.intro cB (And.intro hb2 (And.intro c5 cN1.lt))))))))
  clear hw hZ hm he hf cB hb1 b2 hb2 cN1 c5
  go_wp2_with fail
  refine (flowing_any _ _ _ _ _ _ _ _).mono ?_
  rintro e3 w3 ⟨rfl, hw3⟩
  obtain ⟨hw, hZ, hm, he, hf, cB, hb2, c5, hlt1⟩ := H1.out
  rw [World.size_alloc]
  have hbz : Below w2.heap.size w2 w3 := by rw [hw3]; exact (((Below.refl _ _).alloc (Nat.le_refl _) _).alloc (by simp) _).alloc (by simp; omega) _
  have hz3 : w3.heap.size = w2.heap.size + 3 := by rw [hw3]; simp
  have hb3 := hb2.trans (hbz.mono hb2.size)
  have cB3 := cB.below hbz cB.lt
  have c53 : Cel w3 w2.heap.size [.slice (some ⟨w1.heap.size, 0, none⟩) m m] 25 := by rw [hw3]; exact (c5.alloc _).alloc _
  have cX : Cel w3 (w2.heap.size + 1) [.int .i64 (m : Int), .slice va es.length vc] 24 := by
    have h := (Cel.new (w2.alloc (.cells #[.slice (some ⟨w1.heap.size, 0, none⟩) m m] 25)) #[.int .i64 (m : Int), .slice va es.length vc] 24).alloc (.cells #[.slice xa fl.length xc] 25)
    rw [World.size_alloc] at h
    rw [hw3]
    exact h
  have cY : Cel w3 (w2.heap.size + 1 + 1) [.slice xa fl.length xc] 25 := by
    have h := Cel.new ((w2.alloc (.cells #[.slice (some ⟨w1.heap.size, 0, none⟩) m m] 25)).alloc (.cells #[.int .i64 (m : Int), .slice va es.length vc] 24)) #[.slice xa fl.length xc] 25
    rw [World.size_alloc, World.size_alloc] at h
    rw [hw3]
    exact h
  have hS : ∀ q, (q = w1.heap.size ∨ w2.heap.size + 3 ≤ q) → w.heap.size ≤ q := fun q hq => by omega
  have hL2 := flowing_loads (S := fun q => q = w1.heap.size ∨ w2.heap.size + 3 ≤ q) cX (by omega) (he.wide hb3 hS) cY (by omega) (hf.wide hb3 hS) hw.2.1
  have H2 := Lib.hid (And.intro hb3 (And.intro cB3 (And.intro c53 (And.intro hz3 (And.intro hlt1 (And.intro hL2 (And.intro hmlt (zip_small hw.1.2.2.2.1 hw.2.2))))))))
  have H3 := Lib.hid (And.intro hw (And.intro hZ hm))
  clear hw hZ hm he hf cB hb2 c5 hlt1 hw3 hbz hz3 hb3 cB3 c53 cX cY hS hL2 H1 hmk hmlt n0 n1 n0' n1'
  go_wp2
  refine range_loads (ls := es.zip fl) (w0 := w3) (S := fun q => q = w1.heap.size ∨ w2.heap.size + 3 ≤ q) rfl flowing_enters H2.out.2.2.2.2.2.1 rfl
    (fun k W => Only (fun q => q = w1.heap.size ∨ w2.heap.size + 3 ≤ q) w3 W ∧ Cel W w1.heap.size (ivL (overL m ((es.zip fl).take k))) 2)
    (fun _ => False) ⟨Only.refl _ _, by rw [List.take_zero, overL_zero]; exact H2.out.2.1⟩ (fun k W h => h.1) ?hst (fun _ _ h => h.elim) ?hround ?hend (fun _ h => h.elim)
  case hst =>
    rintro k W W' ⟨h1, h2⟩ ho
    have := H2.out.2.2.2.1
    have := H2.out.2.2.2.2.2.2.1
    exact ⟨h1.then ho (fun q hq => .inl (by omega)), h2.only ho (by omega)⟩
  case hround =>
    rintro k p W hp ⟨h1, h2⟩ hsz
    have hz3 := H2.out.2.2.2.1
    have hlt1 := H2.out.2.2.2.2.1
    have hmlt := H2.out.2.2.2.2.2.2.1
    rw [hz3] at hsz ⊢
    obtain ⟨e, f⟩ := p
    refine ⟨{ tmps := #[netV ((m : Int)) (.slice va es.length vc), .slice xa fl.length xc, .pointer (some ⟨w.heap.size, 0, none⟩), undef, .slice none 0 0, .pointer (some ⟨w2.heap.size, 0, none⟩), .pointer (some ⟨W.heap.size, 0, none⟩), .int .i64 f, .agg #[.int .i64 (m : Int), .slice va es.length vc], .slice xa fl.length xc, .bool true, .bool false, .pointer (some ⟨w.heap.size, 0, none⟩), .int .i64 (m : Int), .slice (some ⟨w1.heap.size, 0, none⟩) m m, .agg #[.int .i64 (m : Int), .slice va es.length vc], .slice xa fl.length xc, .func (.func 35) #[] #[.pointer (some ⟨w2.heap.size + 1, 0, none⟩), .pointer (some ⟨w2.heap.size + 1 + 1, 0, none⟩)], edV e, .int .i64 f, undef, undef, undef, undef, undef, undef, undef, undef, undef, undef, undef, undef, undef, undef, undef, undef, undef], defers := [] }, W.alloc (.cells #[.int .i64 e.fr, .int .i64 e.to, .int .i64 e.cap, .int .i64 e.cost] 39), (Below.refl _ _).alloc (Nat.le_refl _) _, fun K hK => ?_, ?_⟩
    · gi_wp2
      exact hK
    rintro W2 ho ⟨g1, g2⟩
    have ce := (Cel.new W #[.int .i64 e.fr, .int .i64 e.to, .int .i64 e.cap, .int .i64 e.cost] 39).only ho (by omega)
    have c5 := (H2.out.2.2.1.only g1 (by omega)).one
    obtain ⟨e0, e1, e2, e3⟩ := Cel.ed ce
    have hmem := List.mem_of_getElem? hp
    have hsm := H2.out.2.2.2.2.2.2.2 _ hmem
    have hpm := H3.out.1.1.2.2.2.1 e (List.of_mem_zip hmem).1
    have hlen : (es.zip fl).length ≤ 200 := by have := H3.out.1.1.2.2.1; rw [List.length_zip]; omega
    obtain ⟨i, hi⟩ : ∃ i : Nat, e.fr = (i : Int) := ⟨e.fr.toNat, by have := hpm.1; omega⟩
    obtain ⟨j, hj⟩ : ∃ j : Nat, e.to = (j : Int) := ⟨e.to.toNat, by have := hpm.2.2.1; omega⟩
    obtain ⟨x, hx⟩ : ∃ x, x = ovr ((es.zip fl).take k) i := ⟨_, rfl⟩
    have hbx := ovr_take_le H2.out.2.2.2.2.2.2.2 hlen k i
    have hby := ovr_take_le H2.out.2.2.2.2.2.2.2 hlen k j
    have hil : i < m := by have := hpm.2.1; omega
    have hjl : j < m := by have := hpm.2.2.2.1; omega
    have hil' : (i : Int) < (m : Int) := by omega
    have hjl' : (j : Int) < (m : Int) := by omega
    have hi0 : (0 : Int) ≤ (i : Int) := by omega
    have hj0 : (0 : Int) ≤ (j : Int) := by omega
    have x0 : W2.cell? ⟨w1.heap.size, i, none⟩ = some (.int .i64 x) := by rw [g2.cell, hx]; exact ivL_at (overL_at (by omega))
    have y0 : W2.cell? ⟨w1.heap.size, j, none⟩ = some (.int .i64 (ovr ((es.zip fl).take k) j)) := by rw [g2.cell]; exact ivL_at (overL_at (by omega))
    have fx := g2.frozen i
    have fy := g2.frozen j
    have hf0 : 0 ≤ f ∧ f ≤ 4503599627370496 := ⟨hsm.1, hsm.2.1⟩
    have w1x : wrap64 (x - f) = x - f := by unfold wrap64; omega
    rw [hi] at e0
    rw [hj] at e1
    have hn1 : w2.heap.size ≠ w1.heap.size := by omega
    have hn2 : W.heap.size ≠ w1.heap.size := by omega
    have hn3 : w1.heap.size ≠ w2.heap.size := by omega
    have hn4 : w1.heap.size ≠ W.heap.size := by omega
    have step := fun y hy => over_step (m := m) hp hi hj hx (y := y) hy
    rw [← hx] at hbx
    by_cases hij : i = j
    · subst hij
      have st := step (x - f) (by simp)
      rw [show x - f + f = x by omega] at st
      have hcell : Cel ((W2.setCell ⟨w1.heap.size, i, none⟩ (.int .i64 (x - f))).setCell ⟨w1.heap.size, i, none⟩ (.int .i64 x)) w1.heap.size (ivL (overL m ((es.zip fl).take (k + 1)))) 2 := by
        rw [st, ← ivL_set, ← ivL_set]
        exact (g2.set _ _).set _ _
      have w2x : wrap64 x = x := by unfold wrap64; omega
      have hkeep : Only (fun q => q ≠ w2.heap.size + 3 ∧ q ≠ w2.heap.size + 3 + 1) W2 ((W2.setCell ⟨w1.heap.size, i, none⟩ (.int .i64 (x - f))).setCell ⟨w1.heap.size, i, none⟩ (.int .i64 x)) := ((Only.refl _ _).setCell (.inl (by simp only; omega)) _).setCell (.inl (by simp only; omega)) _
      have hkeep2 : Only (fun q => q = w1.heap.size ∨ w2.heap.size + 3 ≤ q) w3 ((W2.setCell ⟨w1.heap.size, i, none⟩ (.int .i64 (x - f))).setCell ⟨w1.heap.size, i, none⟩ (.int .i64 x)) := (g1.setCell (.inl (.inl rfl)) _).setCell (.inl (.inl rfl)) _
      have HX := Lib.hid (And.intro hkeep (And.intro hkeep2 hcell))
      clear hkeep hkeep2 hcell st step hx hi hj hbx hby hil hjl hf0 hpm hsm hlen hmem hp g1 g2 ce h1 h2 ho hz3 hsz hlt1 hmlt
      gi_wp2
      exact HX.out
    · have st := step (ovr ((es.zip fl).take k) j) (by rw [if_neg hij])
      generalize ovr ((es.zip fl).take k) j = y at *
      have hcell : Cel ((W2.setCell ⟨w1.heap.size, i, none⟩ (.int .i64 (x - f))).setCell ⟨w1.heap.size, j, none⟩ (.int .i64 (y + f))) w1.heap.size (ivL (overL m ((es.zip fl).take (k + 1)))) 2 := by
        rw [st, ← ivL_set, ← ivL_set]
        exact (g2.set _ _).set _ _
      have w2x : wrap64 (y + f) = y + f := by unfold wrap64; omega
      have hkeep : Only (fun q => q ≠ w2.heap.size + 3 ∧ q ≠ w2.heap.size + 3 + 1) W2 ((W2.setCell ⟨w1.heap.size, i, none⟩ (.int .i64 (x - f))).setCell ⟨w1.heap.size, j, none⟩ (.int .i64 (y + f))) := ((Only.refl _ _).setCell (.inl (by simp only; omega)) _).setCell (.inl (by simp only; omega)) _
      have hkeep2 : Only (fun q => q = w1.heap.size ∨ w2.heap.size + 3 ≤ q) w3 ((W2.setCell ⟨w1.heap.size, i, none⟩ (.int .i64 (x - f))).setCell ⟨w1.heap.size, j, none⟩ (.int .i64 (y + f))) := (g1.setCell (.inl (.inl rfl)) _).setCell (.inl (.inl rfl)) _
      have HX := Lib.hid (And.intro hkeep (And.intro hkeep2 hcell))
      have hji : j ≠ i := fun e => hij e.symm
      clear hkeep hkeep2 hcell st step hx hi hj hbx hby hil hjl hf0 hpm hsm hlen hmem hp g1 g2 ce h1 h2 ho hz3 hsz hlt1 hmlt
      gi_wp2
      exact HX.out
  case hend =>
    rintro W ⟨h1, h2⟩ hd
    have hz3 := H2.out.2.2.2.1
    have hlt1 := H2.out.2.2.2.2.1
    have hmlt := H2.out.2.2.2.2.2.2.1
    rw [List.take_length, ← H3.out.2.1] at h2
    rw [hz3] at hd ⊢
    have c5 := (H2.out.2.2.1.only h1 (by omega)).one
    have hbW : Below w.heap.size w W := H2.out.1.trans (h1.below (by have := H2.out.1.size; omega) (fun q hq => by omega))
    have hzl : m = Z.length := by rw [H3.out.2.1, overL_length]; simp
    have hzs : Z.length ≤ 4611686018427387904 := by rw [← hzl]; have := H3.out.2.2; omega
    have HX := Lib.hid (And.intro h2 (And.intro hd (And.intro hbW (And.intro hzl (And.intro hzs (And.intro hlt1 hmlt))))))
    clear h1 h2 hd hbW hzl hzs hz3 hlt1 hmlt
    go_wp2
    obtain ⟨h2, hd, hbW, hzl, hzs, hlt1, hmlt⟩ := HX.out
    have hlt := (Array.getElem?_eq_some_iff.1 hd).1
    have ho := only_put W hlt (.deferred none) (S := fun q => q = w2.heap.size + 3) rfl
    refine ⟨by simp, .inl ⟨_, _, rfl, run_takeDeferred hd, ?_⟩⟩
    exact ⟨.slice (some ⟨w1.heap.size, 0, none⟩) m m, results_slot rfl rfl, _, rfl, fs_of_cel (h2.only ho (by omega)) hzs hzl, hbW.trans (ho.below (by omega) (fun q hq => by omega)), fun _ => ⟨_, by rw [Int.toNat_natCast], h2.only ho (by omega), Nat.le_of_lt hlt1⟩⟩
theorem over_any (n : Int) (es : List Ed) (fl : List Int) (w : World) {v x : Value} (he : Es w v es) (hf : Fs w x fl) :
    Calls Try.prog 22 #[netV n v, x] w fun e w' => ∃ r, e = .returned r ∧ Fs w' r (overP n es fl) ∧ Below w.heap.size w w' :=
  (over_own n es fl w he hf).mono fun _ _ ⟨r, h1, h2, h3, _⟩ => ⟨r, h1, h2, h3⟩
end Go.Proofs.Ytmdjgkclbjbdiaa
