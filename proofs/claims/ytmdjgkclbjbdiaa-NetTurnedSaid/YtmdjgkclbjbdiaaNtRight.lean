/- Whether a net is one: the program's Right; no condition. -/
import Derived.Test.YtmdjgkclbjbdiaaNtCosts
import Derived.Test.YtmdjgkclbjbdiaaNtPerm
import Derived.Shelf.Abstract
namespace Go.Proofs.Ytmdjgkclbjbdiaa
open Go.RowKit
attribute [local go_sem] Oper.semAt_some

theorem Cel.one {w : World} {g : Nat} {x : Value} {t : TypeId} (h : Cel w g [x] t) : w.cell? ⟨g, 0, none⟩ = some x := by rw [h.cell]; rfl
theorem Cel.net {w : World} {g : Nat} {x y : Value} {t : TypeId} (h : Cel w g [x, y] t) : w.cell? ⟨g, 0, none⟩ = some x ∧ w.cell? ⟨g, 1, none⟩ = some y := ⟨by rw [h.cell]; rfl, by rw [h.cell]; rfl⟩
theorem Cel.ed {w : World} {g : Nat} {e : Ed} (h : Cel w g (edL e) 39) : w.cell? ⟨g, 0, none⟩ = some (.int .i64 e.fr) ∧ w.cell? ⟨g, 1, none⟩ = some (.int .i64 e.to) ∧ w.cell? ⟨g, 2, none⟩ = some (.int .i64 e.cap) ∧ w.cell? ⟨g, 3, none⟩ = some (.int .i64 e.cost) := ⟨by rw [h.cell]; rfl, by rw [h.cell]; rfl, by rw [h.cell]; rfl, by rw [h.cell]; rfl⟩
theorem load_bool {w : World} {g : Nat} {b : Bool} (h : Cel w g [.bool b] 4) : (loadVar 4 ⟨g, 0, none⟩).run Try.prog w = .ok (.bool b) w := by
  have c0 := h.one
  go_simp

/-- What a function leaves that answers out of a cell, behind a range. -/
theorem marks_end {fn : Func} {t : Tmp} {tmps : Array Value} {W : World} {g D : Nat} {b : Bool} {n : Nat} {w : World} (h : fn.results = #[.cell t 4]) (ht : tmps.getD t undef = .pointer (some ⟨g, 0, none⟩)) (hc : Cel W g [.bool b] 4) (hd : W.heap[D]? = some (.deferred (some []))) (hgD : g ≠ D) (hb : Below n w W) (hn : n ≤ D) :
    (results fn tmps).run Try.prog (W.putObj D (.deferred none)) = .ok (.bool b) (W.putObj D (.deferred none)) ∧ Below n w (W.putObj D (.deferred none)) := by
  have hlt := (Array.getElem?_eq_some_iff.1 hd).1
  have ho := only_put W hlt (.deferred none) (S := fun q => q = D) rfl
  exact ⟨jresults_cell h ht (load_bool (hc.only ho hgD)), hb.grown (grownBy_putObj' W D _) (by omega) (fun k e => by cases e; exact hn)⟩

theorem marks_ret {fn : Func} {t : Tmp} {tmps : Array Value} {W : World} {g D : Nat} {b : Bool} {n : Nat} {w : World} (h : fn.results = #[.cell t 4]) (ht : tmps.getD t undef = .pointer (some ⟨g, 0, none⟩)) (hc : Cel W g [.bool b] 4) (hd : W.heap[D]? = some (.deferred (some []))) (hgD : g ≠ D) (hb : Below n w W) (hn : n ≤ D) :
    ∃ v, (results fn tmps).run Try.prog (W.putObj D (.deferred none)) = .ok v (W.putObj D (.deferred none)) ∧ Ending.returned v = .returned (.bool b) ∧ Below n w (W.putObj D (.deferred none)) := by
  obtain ⟨q1, q2⟩ := marks_end h ht hc hd hgD hb hn
  exact ⟨_, q1, rfl, q2⟩

theorem full_enters : ∀ args w, (callFunc 32 args).run Try.prog w = .ok (.enter 32 args) w := enters_of Try.func32 (by kernel_rfl) rfl
theorem flowing_enters : ∀ args w, (callFunc 35 args).run Try.prog w = .ok (.enter 35 args) w := enters_of Try.func35 (by kernel_rfl) rfl

/-- The costs of a full net. -/
theorem costs_full {n : Int} {v : Value} {es : List Ed} {w : World} {Bn : Nat} (hc : Cel w Bn [.int .i64 n, v] 24) (he : Es w v es) (hp : ∀ e ∈ es, Perm n e) (hn : es.length ≤ 200) :
    Calls Try.prog 28 #[.func (.func 32) #[] #[.pointer (some ⟨Bn, 0, none⟩)]] w fun e w' => e = .returned (.tuple #[wideV (upN (full es)), wideV (dnN (full es))]) ∧ Below w.heap.size w w' :=
  costs_any full_enters (full_loads hc (by have := hc.lt; omega) (he.old (Nat.le_refl _))) (full_small hp) (by rw [full_length]; exact hn)

set_option maxRecDepth 100000 in
set_option maxHeartbeats 4000000 in
theorem right_any (n : Int) (es : List Ed) (w : World) {v : Value} (he : Es w v es) :
    Calls Try.prog 13 #[netV n v] w fun e w' => e = .returned (.bool (decide (RightP n es))) ∧ Below w.heap.size w w' := by
  obtain ⟨va, vc, rfl, -, -⟩ := he.shape
  obtain ⟨L, hL⟩ : ∃ L, L = es.length := ⟨_, rfl⟩
  obtain ⟨b, hbv⟩ : ∃ b, b = decide (RightP n es) := ⟨_, rfl⟩
  have hF : ¬ RightP n es → b = false := fun h => by rw [hbv]; exact decide_eq_false h
  have hT : RightP n es → b = true := fun h => by rw [hbv]; exact decide_eq_true h
  rw [← hbv]
  clear hbv
  rw [← hL] at he ⊢
  have HC := Lib.hid (And.intro he (And.intro hL (And.intro hF hT)))
  have hb0 : Below w.heap.size w ((w.alloc (.cells #[.int .i64 n, .slice va L vc] 24)).alloc (.cells #[.bool false] 4)) := ((Below.refl _ _).alloc (Nat.le_refl _) _).alloc (by simp) _
  have cN := (Cel.new w #[.int .i64 n, .slice va L vc] 24).alloc (.cells #[.bool false] 4)
  have cR : Cel ((w.alloc (.cells #[.int .i64 n, .slice va L vc] 24)).alloc (.cells #[.bool false] 4)) (w.alloc (.cells #[.int .i64 n, .slice va L vc] 24)).heap.size [.bool false] 4 := Cel.new _ _ _
  rw [World.size_alloc] at cR
  have hz0 : ((w.alloc (.cells #[.int .i64 n, .slice va L vc] 24)).alloc (.cells #[.bool false] 4)).heap.size = w.heap.size + 2 := by simp
  have H0 := Lib.hid (And.intro hb0 (And.intro cN (And.intro cR hz0)))
  clear he hL hF hT hb0 cN cR hz0
  have early : ∀ (h : ¬ RightP n es), b = false ∧ ∀ tmps : Array Value, tmps.getD 2 undef = .pointer (some ⟨w.heap.size + 1, 0, none⟩) →
      (results Try.f13 tmps).run Try.prog ((w.alloc (.cells #[.int .i64 n, .slice va L vc] 24)).alloc (.cells #[.bool false] 4)) = .ok (.bool false) ((w.alloc (.cells #[.int .i64 n, .slice va L vc] 24)).alloc (.cells #[.bool false] 4)) :=
    fun h => ⟨HC.out.2.2.1 h, fun tmps ht => jresults_cell rfl ht (load_bool H0.out.2.2.1)⟩
  have HE := Lib.hid early
  clear early
  refine ncalls_of_wp_marks 12 Try.func13 rfl ?_
  simp only [Try.ntmps13, List.size_toArray, List.length_cons, List.length_nil, Nat.reduceAdd, Nat.reduceSub, Array.replicate_succ, Array.replicate_zero, List.push_toArray, List.append_toArray, List.nil_append, List.cons_append]
  by_cases k1 : n < 1
  · obtain ⟨rfl, hr⟩ := HE.out (fun h => by have := h.1; omega)
    have HE2 := Lib.hid hr
    clear hr HC HE
    go_wp2
    exact ⟨_, HE2.out _ rfl, rfl, H0.out.1⟩
  by_cases k2 : 40 < n
  · obtain ⟨rfl, hr⟩ := HE.out (fun h => by have := h.2.1; omega)
    have HE2 := Lib.hid hr
    clear hr HC HE
    go_wp2
    exact ⟨_, HE2.out _ rfl, rfl, H0.out.1⟩
  by_cases k3 : (200 : Int) < (L : Int)
  · obtain ⟨rfl, hr⟩ := HE.out (fun h => by have := h.2.2.1; have := HC.out.2.1; omega)
    have HE2 := Lib.hid hr
    clear hr HC HE
    go_wp2
    exact ⟨_, HE2.out _ rfl, rfl, H0.out.1⟩
  clear HE
  go_wp2_with fail
  refine (full_any _ _ _ _ _).mono ?_
  rintro e1 w1 ⟨rfl, hw1⟩
  obtain ⟨hb0, cN, cR, hz0⟩ := H0.out
  generalize (w.alloc (.cells #[.int .i64 n, .slice va L vc] 24)).alloc (.cells #[.bool false] 4) = wn at *
  have hb1 : Below w.heap.size w w1 := by rw [hw1]; exact hb0.alloc (by omega) _
  have cN1 : Cel w1 w.heap.size [.int .i64 n, .slice va L vc] 24 := by rw [hw1]; exact cN.alloc _
  have cR1 : Cel w1 (w.heap.size + 1) [.bool false] 4 := by rw [hw1]; exact cR.alloc _
  have cB1 : Cel w1 (w.heap.size + 2) [.int .i64 n, .slice va L vc] 24 := by rw [hw1, ← hz0]; exact Cel.new _ _ _
  have hz1 : w1.heap.size = w.heap.size + 3 := by rw [hw1, World.size_alloc, hz0]
  have he1 : Rd kdEd w1 (fun q => w.heap.size + 3 ≤ q) (.slice va L vc) es := (HC.out.1.below hb1).old (by omega)
  have H1 := Lib.hid (And.intro hb1 (And.intro cN1 (And.intro cR1 (And.intro cB1 (And.intro hz1 he1)))))
  rw [hz0]
  clear hw1 hb0 cN cR hz0 H0 hb1 cN1 cR1 cB1 hz1 he1
  go_wp2
  refine range_loads (ls := full es) (w0 := w1) (S := fun q => w.heap.size + 3 ≤ q) rfl full_enters (full_loads H1.out.2.2.2.1 (by omega) H1.out.2.2.2.2.2) rfl
    (fun k W => Only (fun q => w.heap.size + 3 ≤ q) w1 W ∧ ∀ e ∈ es.take k, Perm n e)
    (fun W => Only (fun q => q = w.heap.size + 1 ∨ w.heap.size + 3 ≤ q) w1 W ∧ Cel W (w.heap.size + 1) [.bool false] 4 ∧ b = false) ⟨Only.refl _ _, by simp⟩ (fun k W h => h.1) ?hst ?hstx ?hround ?hend ?hret
  case hst =>
    rintro k W W' ⟨h1, h2⟩ ho
    have := H1.out.2.2.2.2.1
    exact ⟨h1.then ho (fun q hq => .inl (by omega)), h2⟩
  case hstx =>
    rintro W W' ⟨h1, h2, h3⟩ ho
    have := H1.out.2.2.2.2.1
    exact ⟨h1.then ho (fun q hq => .inl (by omega)), h2.only ho (by omega), h3⟩
  case hround =>
    rintro k p W hp ⟨h1, h2⟩ hsz
    have hz1 := H1.out.2.2.2.2.1
    rw [hz1] at hsz ⊢
    obtain ⟨e, he⟩ : ∃ e, es[k]? = some e := ⟨_, List.getElem?_eq_getElem (by have := (List.getElem?_eq_some_iff.1 hp).1; rw [full_length] at this; exact this)⟩
    rw [full_get he] at hp
    cases hp
    refine ⟨{ tmps := #[netV n (.slice va L vc), .pointer (some ⟨w.heap.size, 0, none⟩), .pointer (some ⟨w.heap.size + 1, 0, none⟩), .pointer (some ⟨W.heap.size, 0, none⟩), undef, undef, undef, .pointer (some ⟨w.heap.size, 0, none⟩), .int .i64 n, .bool false, .bool false, .pointer (some ⟨w.heap.size, 0, none⟩), .int .i64 n, .bool false, .bool false, .bool false, .pointer (some ⟨w.heap.size, 1, none⟩), .slice va L vc, .int .i64 (L : Int), .bool false, .bool false, .agg #[.int .i64 n, .slice va L vc], .func (.func 32) #[] #[.pointer (some ⟨w.heap.size + 2, 0, none⟩)], edV e, .int .i64 e.cap, undef, undef, undef, undef, undef, undef, undef, undef, undef, undef, undef, undef, undef, undef, undef, undef, undef, undef, undef, undef, undef, undef], defers := [] }, W.alloc (.cells #[.int .i64 e.fr, .int .i64 e.to, .int .i64 e.cap, .int .i64 e.cost] 39), (Below.refl _ _).alloc (Nat.le_refl _) _, fun K hK => ?_, ?_⟩
    · gi_wp2
      exact hK
    rintro W2 ho ⟨g1, g2⟩
    have ce := (Cel.new W #[.int .i64 e.fr, .int .i64 e.to, .int .i64 e.cap, .int .i64 e.cost] 39).only ho (by omega)
    have cN := (H1.out.2.1.only g1 (by omega)).net
    have cR := H1.out.2.2.1.only g1 (by omega)
    have r0 := cR.one
    have r1 := cR.frozen 0
    obtain ⟨n0, n1⟩ := cN
    obtain ⟨e0, e1, e2, e3⟩ := Cel.ed ce
    have P := permitted_any e n W2
    have hmem := List.mem_of_getElem? he
    have ht : es.take (k + 1) = es.take k ++ [e] := by rw [List.take_add_one, he]; rfl
    have HX := Lib.hid (And.intro g1 (And.intro g2 (And.intro cR (And.intro ht (And.intro hmem (And.intro he hsz))))))
    clear g1 g2 cR ht hmem he hsz ce h1 h2 ho hz1
    by_cases hp : Perm n e
    · rw [decide_eq_true hp] at P
      have HP := Lib.hid hp
      clear hp
      gi_wp2_with fail
      refine ⟨trivial, CallsIn.mono (CallsIn.inRound _ (callsIn_wide.2 P)) ?_⟩
      rintro e4 W4 ⟨rfl, b4⟩
      clear r0 r1 n0 n1 e0 e1 e2 e3
      gi_wp2
      refine ⟨Only.of_below b4 _, HX.out.1.trans (Only.of_below b4 _), fun x hx => ?_⟩
      rw [HX.out.2.2.2.1] at hx
      rcases List.mem_append.1 hx with hx | hx
      · exact HX.out.2.1 x hx
      · rw [List.mem_singleton.1 hx]; exact HP.out
    · rw [decide_eq_false hp] at P
      have HP := Lib.hid hp
      clear hp
      gi_wp2_with fail
      refine ⟨trivial, CallsIn.mono (CallsIn.inRound _ (callsIn_wide.2 P)) ?_⟩
      rintro e4 W4 ⟨rfl, b4⟩
      have c4 := HX.out.2.2.1.below b4 HX.out.2.2.1.lt
      have r0 := c4.one
      have r1 := c4.frozen 0
      clear e0 e1 e2 e3 n0 n1
      gi_wp2
      have hb := HX.out.2.2.2.2.2.2
      have hz1 := H1.out.2.2.2.2.1
      refine ⟨(Only.of_below b4 _).setCell (p := ⟨w.heap.size + 1, 0, none⟩) (.inl (by simp)) _, ((HX.out.1.mono (fun q _ hq => .inr hq)).trans ((Only.of_below b4 _).setCell (p := ⟨w.heap.size + 1, 0, none⟩) (.inl (.inl rfl)) _)), c4.set 0 _, HC.out.2.2.1 (fun h => HP.out (h.2.2.2.1 e (HX.out.2.2.2.2.1)))⟩
  case hend =>
    rintro W ⟨h1, h2⟩ hd
    have hz1 := H1.out.2.2.2.2.1
    have hp : ∀ e ∈ es, Perm n e := by
      rw [full_length, List.take_length] at h2
      exact h2
    have cN := H1.out.2.1.only h1 (by omega)
    have cR := H1.out.2.2.1.only h1 (by omega)
    obtain ⟨n0, n1⟩ := cN.net
    have hbW : Below w.heap.size w W := H1.out.1.trans (h1.below (by omega) (fun q hq => by omega))
    have heW : Es W (.slice va L vc) es := (H1.out.2.2.2.2.2.only h1).free
    rw [hz1] at hd ⊢
    have HX := Lib.hid (And.intro hp (And.intro cR (And.intro hbW (And.intro heW (And.intro hd (show w.heap.size + 3 ≤ W.heap.size from by rw [← hz1]; exact h1.size))))))
    clear h1 h2 hp cN cR hbW heW hd hz1
    go_wp2_with fail
    refine (full_any _ _ _ _ _).mono ?_
    rintro e2 w2 ⟨rfl, hw2⟩
    have cB : Cel w2 W.heap.size [.int .i64 n, .slice va L vc] 24 := by rw [hw2]; exact Cel.new _ _ _
    have hb2 : Below W.heap.size W w2 := by rw [hw2]; exact (Below.refl _ _).alloc (Nat.le_refl _) _
    have hlen : es.length ≤ 200 := by have := HC.out.2.1; omega
    have P := costs_full cB (HX.out.2.2.2.1.below hb2) HX.out.1 hlen
    clear hw2 n0 n1 cB
    go_wp2_with fail
    refine P.mono ?_
    rintro e3 w3 ⟨rfl, b3⟩
    clear P
    have hsz3 := b3.size
    have hsz2 := hb2.size
    have hsm := full_small HX.out.1
    have hu1 := up_le hsm
    have hu2 := dn_le hsm
    rw [full_length] at hu1 hu2
    have hfin : RightP n es ↔ upN (full es) + dnN (full es) ≤ 4611686018427387904 := ⟨fun h => h.2.2.2.2, fun h => ⟨by omega, by omega, hlen, HX.out.1, h⟩⟩
    have hm := Nat.mul_le_mul_right 4503599627370496000 hlen
    generalize upN (full es) = U at *
    generalize dnN (full es) = D at *
    obtain ⟨hi, hhi⟩ : ∃ hi : Nat, hi = (U + D) / 18446744073709551616 := ⟨_, rfl⟩
    obtain ⟨lo, hlo⟩ : ∃ lo : Nat, lo = (U + D) % 18446744073709551616 := ⟨_, rfl⟩
    have P2 : ∀ V, Calls Try.prog 29 #[.agg #[.int .u64 ((U : Int) / 18446744073709551616), .int .u64 ((U : Int) % 18446744073709551616)], .agg #[.int .u64 ((D : Int) / 18446744073709551616), .int .u64 ((D : Int) % 18446744073709551616)]] V
        fun e w' => e = .returned (.agg #[.int .u64 (hi : Int), .int .u64 (lo : Int)]) ∧ Below V.heap.size V w' := fun V => by
      have h := plus_any U D (by omega) V
      unfold wideV at h
      rw [← hhi, ← hlo] at h
      simpa using h
    have h0 : hi = 0 ∧ lo ≤ 4611686018427387904 ∧ b = true ∨ hi = 0 ∧ 4611686018427387904 < lo ∧ b = false ∨ hi ≠ 0 ∧ b = false := by
      rcases Nat.lt_or_ge 4611686018427387904 (U + D) with h | h
      · have hf := HC.out.2.2.1 (fun h' => by have := hfin.1 h'; omega)
        rcases Nat.eq_zero_or_pos hi with h1 | h1
        · exact .inr (.inl ⟨h1, by omega, hf⟩)
        · exact .inr (.inr ⟨by omega, hf⟩)
      · exact .inl ⟨by omega, by omega, HC.out.2.2.2 (hfin.2 h)⟩
    clear hfin hm hu1 hu2 hsm hhi hlo hlen
    rcases h0 with ⟨rfl, h2, rfl⟩ | ⟨rfl, h2, rfl⟩ | ⟨h1, rfl⟩
    · have h2i : (lo : Int) ≤ 4611686018427387904 := by omega
      clear h2
      go_wp2_with fail
      refine (P2 _).mono ?_
      rintro e4 w4 ⟨rfl, b4⟩
      have bF : Below W.heap.size W w4 := (((hb2.trans (b3.mono hb2.size)).alloc (by omega) _).alloc (by simp; omega) _).trans (b4.mono (by simp; omega))
      have c4 := HX.out.2.1.below bF HX.out.2.1.lt
      have d4 := (bF.block _ (Array.getElem?_eq_some_iff.1 HX.out.2.2.2.2.1).1).trans HX.out.2.2.2.2.1
      have b5 := HX.out.2.2.1.trans (bF.mono HX.out.2.2.1.size)
      have r0 := (c4.alloc (.cells #[.int .u64 0, .int .u64 (lo : Int)] 50)).one
      have r1 := (c4.alloc (.cells #[.int .u64 0, .int .u64 (lo : Int)] 50)).frozen 0
      have HB := Lib.hid (And.intro ((c4.alloc (.cells #[.int .u64 0, .int .u64 (lo : Int)] 50)).set 0 (.bool true)) (And.intro ((Below.heap_setCell (w4.alloc (.cells #[.int .u64 0, .int .u64 (lo : Int)] 50)) ⟨w.heap.size + 1, 0, none⟩ (.bool true) (w.heap.size + 3) (by simp)).trans ((Below.heap_alloc w4 (.cells #[.int .u64 0, .int .u64 (lo : Int)] 50) _ (Array.getElem?_eq_some_iff.1 d4).1).trans d4)) ((b5.alloc (by have := c4.lt; omega) (.cells #[.int .u64 0, .int .u64 (lo : Int)] 50)).setCell (p := ⟨w.heap.size + 1, 0, none⟩) (by simp) (.bool true))))
      clear bF c4 d4 b5 P2
      go_wp2
      exact ⟨by simp, .inl ⟨_, _, rfl, run_takeDeferred HB.out.2.1, marks_ret rfl rfl HB.out.1 HB.out.2.1 (by omega) HB.out.2.2 (by omega)⟩⟩
    · have h2i : ¬ (lo : Int) ≤ 4611686018427387904 := by omega
      clear h2
      go_wp2_with fail
      refine (P2 _).mono ?_
      rintro e4 w4 ⟨rfl, b4⟩
      have bF : Below W.heap.size W w4 := (((hb2.trans (b3.mono hb2.size)).alloc (by omega) _).alloc (by simp; omega) _).trans (b4.mono (by simp; omega))
      have c4 := HX.out.2.1.below bF HX.out.2.1.lt
      have d4 := (bF.block _ (Array.getElem?_eq_some_iff.1 HX.out.2.2.2.2.1).1).trans HX.out.2.2.2.2.1
      have b5 := HX.out.2.2.1.trans (bF.mono HX.out.2.2.1.size)
      have r0 := (c4.alloc (.cells #[.int .u64 0, .int .u64 (lo : Int)] 50)).one
      have r1 := (c4.alloc (.cells #[.int .u64 0, .int .u64 (lo : Int)] 50)).frozen 0
      have HB := Lib.hid (And.intro ((c4.alloc (.cells #[.int .u64 0, .int .u64 (lo : Int)] 50)).set 0 (.bool false)) (And.intro ((Below.heap_setCell (w4.alloc (.cells #[.int .u64 0, .int .u64 (lo : Int)] 50)) ⟨w.heap.size + 1, 0, none⟩ (.bool false) (w.heap.size + 3) (by simp)).trans ((Below.heap_alloc w4 (.cells #[.int .u64 0, .int .u64 (lo : Int)] 50) _ (Array.getElem?_eq_some_iff.1 d4).1).trans d4)) ((b5.alloc (by have := c4.lt; omega) (.cells #[.int .u64 0, .int .u64 (lo : Int)] 50)).setCell (p := ⟨w.heap.size + 1, 0, none⟩) (by simp) (.bool false))))
      clear bF c4 d4 b5 P2
      go_wp2
      rw [show decide ((lo : Int) ≤ 4611686018427387904) = false from decide_eq_false (by omega)]
      exact ⟨by simp, .inl ⟨_, _, rfl, run_takeDeferred HB.out.2.1, marks_ret rfl rfl HB.out.1 HB.out.2.1 (by omega) HB.out.2.2 (by omega)⟩⟩
    · have h2i : ¬ (hi : Int) = 0 := by omega
      clear h1
      go_wp2_with fail
      refine (P2 _).mono ?_
      rintro e4 w4 ⟨rfl, b4⟩
      have bF : Below W.heap.size W w4 := (((hb2.trans (b3.mono hb2.size)).alloc (by omega) _).alloc (by simp; omega) _).trans (b4.mono (by simp; omega))
      have c4 := HX.out.2.1.below bF HX.out.2.1.lt
      have d4 := (bF.block _ (Array.getElem?_eq_some_iff.1 HX.out.2.2.2.2.1).1).trans HX.out.2.2.2.2.1
      have b5 := HX.out.2.2.1.trans (bF.mono HX.out.2.2.1.size)
      have r0 := (c4.alloc (.cells #[.int .u64 (hi : Int), .int .u64 (lo : Int)] 50)).one
      have r1 := (c4.alloc (.cells #[.int .u64 (hi : Int), .int .u64 (lo : Int)] 50)).frozen 0
      have HB := Lib.hid (And.intro ((c4.alloc (.cells #[.int .u64 (hi : Int), .int .u64 (lo : Int)] 50)).set 0 (.bool false)) (And.intro ((Below.heap_setCell (w4.alloc (.cells #[.int .u64 (hi : Int), .int .u64 (lo : Int)] 50)) ⟨w.heap.size + 1, 0, none⟩ (.bool false) (w.heap.size + 3) (by simp)).trans ((Below.heap_alloc w4 (.cells #[.int .u64 (hi : Int), .int .u64 (lo : Int)] 50) _ (Array.getElem?_eq_some_iff.1 d4).1).trans d4)) ((b5.alloc (by have := c4.lt; omega) (.cells #[.int .u64 (hi : Int), .int .u64 (lo : Int)] 50)).setCell (p := ⟨w.heap.size + 1, 0, none⟩) (by simp) (.bool false))))
      clear bF c4 d4 b5 P2
      go_wp2
      exact ⟨by simp, .inl ⟨_, _, rfl, run_takeDeferred HB.out.2.1, marks_ret rfl rfl HB.out.1 HB.out.2.1 (by omega) HB.out.2.2 (by omega)⟩⟩
  case hret =>
    rintro W ⟨h1, h2, h3⟩ hd
    have HX := Lib.hid (And.intro h1 (And.intro h2 (And.intro h3 hd)))
    clear h1 h2 h3 hd
    go_wp2
    obtain ⟨h1, h2, h3, h4⟩ := HX.out
    have hz1 := H1.out.2.2.2.2.1
    rw [hz1] at h4
    rw [hz1, h3]
    refine ⟨by simp, .inl ⟨_, _, rfl, run_takeDeferred h4, ?_⟩⟩
    exact marks_ret rfl rfl h2 h4 (by omega) (H1.out.1.trans (h1.below (by omega) (fun q hq => by omega))) (by omega)
end Go.Proofs.Ytmdjgkclbjbdiaa
