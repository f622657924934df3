/- Whether a flow has a number for each edge, as much as may flow there: the program's Within; no condition. -/
import Derived.Test.YtmdjgkclbjbdiaaNtRight
namespace Go.Proofs.Ytmdjgkclbjbdiaa
open Go.RowKit
attribute [local go_sem] Oper.semAt_some

/-- The first k fit. -/
def FitTo (ls : Load) (k : Nat) : Prop := ∀ p ∈ ls.take k, Fits p
theorem FitTo.more {ls : Load} {k : Nat} {p : Ed × Int} (h : FitTo ls k) (hp : ls.take (k + 1) = ls.take k ++ [p]) (hf : Fits p) : FitTo ls (k + 1) := by
  intro q hq
  rw [hp] at hq
  rcases List.mem_append.1 hq with hq | hq
  · exact h q hq
  · rw [List.mem_singleton.1 hq]; exact hf

set_option maxRecDepth 100000 in
set_option maxHeartbeats 4000000 in
theorem within_any (n : Int) (es : List Ed) (fl : List Int) (w : World) {v x : Value} (he : Es w v es) (hf : Fs w x fl) :
    Calls Try.prog 15 #[netV n v, x] w fun e w' => e = .returned (.bool (decide (WithinP n es fl))) ∧ Below w.heap.size w w' := by
  obtain ⟨va, vc, rfl, -, -⟩ := he.shape
  obtain ⟨xa, xc, rfl, -, -⟩ := hf.shape
  obtain ⟨L, hL⟩ : ∃ L, L = es.length := ⟨_, rfl⟩
  obtain ⟨M, hM⟩ : ∃ M, M = fl.length := ⟨_, rfl⟩
  obtain ⟨b, hbv⟩ : ∃ b, b = decide (WithinP n es fl) := ⟨_, rfl⟩
  have hF : ¬ WithinP n es fl → b = false := fun h => by rw [hbv]; exact decide_eq_false h
  have hT : WithinP n es fl → b = true := fun h => by rw [hbv]; exact decide_eq_true h
  rw [← hbv]
  clear hbv
  rw [← hL] at he ⊢
  rw [← hM] at hf ⊢
  have HC := Lib.hid (And.intro he (And.intro hf (And.intro (And.intro hL hM) (And.intro hF hT))))
  have hb0 : Below w.heap.size w ((w.alloc (.cells #[.int .i64 n, .slice va L vc] 24)).alloc (.cells #[.bool false] 4)) := ((Below.refl _ _).alloc (Nat.le_refl _) _).alloc (by simp) _
  have cN := (Cel.new w #[.int .i64 n, .slice va L vc] 24).alloc (.cells #[.bool false] 4)
  have cR : Cel ((w.alloc (.cells #[.int .i64 n, .slice va L vc] 24)).alloc (.cells #[.bool false] 4)) (w.alloc (.cells #[.int .i64 n, .slice va L vc] 24)).heap.size [.bool false] 4 := Cel.new _ _ _
  rw [World.size_alloc] at cR
  have hz0 : ((w.alloc (.cells #[.int .i64 n, .slice va L vc] 24)).alloc (.cells #[.bool false] 4)).heap.size = w.heap.size + 2 := by simp
  have PR := right_any n es _ (he.below hb0)
  have H0 := Lib.hid (And.intro hb0 (And.intro cN (And.intro cR (And.intro hz0 PR))))
  clear he hf hL hM hF hT hb0 cN cR hz0 PR
  refine ncalls_of_wp_marks 12 Try.func15 rfl ?_
  simp only [Try.ntmps15, List.size_toArray, List.length_cons, List.length_nil, Nat.reduceAdd, Nat.reduceSub, Array.replicate_succ, Array.replicate_zero, List.push_toArray, List.append_toArray, List.nil_append, List.cons_append]
  go_wp2_with fail
  generalize (w.alloc (.cells #[.int .i64 n, .slice va L vc] 24)).alloc (.cells #[.bool false] 4) = wn at *
  refine H0.out.2.2.2.2.mono ?_
  rintro e1 w1 ⟨rfl, b1⟩
  have hb1 := H0.out.1.trans (b1.mono H0.out.1.size)
  have cN := H0.out.2.1.below b1 H0.out.2.1.lt
  have cR := H0.out.2.2.1.below b1 H0.out.2.2.1.lt
  have he1 := HC.out.1.below hb1
  have hf1 := HC.out.2.1.below hb1
  have hz1 := b1.size
  rw [H0.out.2.2.2.1] at hz1
  obtain ⟨n0, n1⟩ := cN.net
  have r0 := cR.one
  have r1 := cR.frozen 0
  have H1 := Lib.hid (And.intro hb1 (And.intro cN (And.intro cR (And.intro he1 (And.intro hf1 hz1)))))
  clear hb1 cN cR he1 hf1 hz1 b1 H0
  by_cases hr : RightP n es
  case neg =>
    obtain rfl := HC.out.2.2.2.1 (fun h => hr h.1)
    rw [decide_eq_false hr]
    clear hr HC
    go_wp2
    exact ⟨_, jresults_cell rfl rfl (load_bool (H1.out.2.2.1.set 0 _)), rfl, H1.out.1.setCell (by simp) _⟩
  rw [decide_eq_true hr]
  by_cases hlen : (M : Int) = (L : Int)
  case neg =>
    obtain rfl := HC.out.2.2.2.1 (fun h => hlen (by have := h.2.1; rw [HC.out.2.2.1.1, HC.out.2.2.1.2]; omega))
    have HN := Lib.hid hlen
    have hq : ((M : Int) != (L : Int)) = true := by simpa using hlen
    clear hr HC hlen
    go_wp2
    exact ⟨_, jresults_cell rfl rfl (load_bool (H1.out.2.2.1.set 0 _)), rfl, H1.out.1.setCell (by simp) _⟩
  obtain rfl : M = L := by omega
  have HR := Lib.hid hr
  clear hr hlen
  go_wp2_with fail
  refine (flowing_any _ _ _ _ _ _ _ _).mono ?_
  rintro e2 w2 ⟨rfl, hw2⟩
  have hb2 : Below w1.heap.size w1 w2 := by rw [hw2]; exact ((Below.refl _ _).alloc (Nat.le_refl _) _).alloc (by simp) _
  have hz2 : w2.heap.size = w1.heap.size + 2 := by rw [hw2]; simp
  have cB : Cel w2 w1.heap.size [.int .i64 n, .slice va M vc] 24 := by rw [hw2]; exact (Cel.new _ _ _).alloc _
  have cF : Cel w2 (w1.heap.size + 1) [.slice xa M xc] 25 := by
    have h : Cel ((w1.alloc (.cells #[.int .i64 n, .slice va M vc] 24)).alloc (.cells #[.slice xa M xc] 25)) (w1.alloc (.cells #[.int .i64 n, .slice va M vc] 24)).heap.size [.slice xa M xc] 25 := Cel.new _ _ _
    rw [World.size_alloc] at h
    rw [hw2]
    exact h
  obtain ⟨hb1, cN, cR, he1, hf1, hz1⟩ := H1.out
  have cN2 := cN.below hb2 cN.lt
  have cR2 := cR.below hb2 cR.lt
  have he2 : Rd kdEd w2 (fun q => w1.heap.size + 2 ≤ q) (.slice va M vc) es := (he1.below hb2).old (by omega)
  have hf2 : Rd kdI w2 (fun q => w1.heap.size + 2 ≤ q) (.slice xa M xc) fl := (hf1.below hb2).old (by omega)
  have hlen : fl.length = es.length := by rw [← HC.out.2.2.1.1, ← HC.out.2.2.1.2]
  have hL2 := flowing_loads cB (by omega) he2 cF (by omega) hf2 hlen
  have H2 := Lib.hid (And.intro (hb1.trans (hb2.mono hb1.size)) (And.intro cN2 (And.intro cR2 (And.intro hz2 (And.intro hz1 (And.intro hL2 hlen))))))
  clear hw2 hb2 hz2 cB cF hb1 cN cR he1 hf1 hz1 cN2 cR2 he2 hf2 hL2 H1 n0 n1 r0 r1 hlen
  go_wp2
  refine range_loads (ls := es.zip fl) (w0 := w2) (S := fun q => w1.heap.size + 2 ≤ q) rfl flowing_enters H2.out.2.2.2.2.2.1 rfl
    (fun k W => Only (fun q => w1.heap.size + 2 ≤ q) w2 W ∧ FitTo (es.zip fl) k)
    (fun W => Only (fun q => q = w.heap.size + 1 ∨ w1.heap.size + 2 ≤ q) w2 W ∧ Cel W (w.heap.size + 1) [.bool false] 4 ∧ b = false) ⟨Only.refl _ _, by simp [FitTo]⟩ (fun k W h => h.1) ?hst ?hstx ?hround ?hend ?hret
  case hst =>
    rintro k W W' ⟨h1, h2⟩ ho
    have := H2.out.2.2.2.1
    exact ⟨h1.then ho (fun q hq => .inl (by omega)), h2⟩
  case hstx =>
    rintro W W' ⟨h1, h2, h3⟩ ho
    have := H2.out.2.2.2.1
    have := H2.out.2.2.2.2.1
    exact ⟨h1.then ho (fun q hq => .inl (by omega)), h2.only ho (by omega), h3⟩
  case hround =>
    rintro k p W hp ⟨h1, h2⟩ hsz
    have hz2 := H2.out.2.2.2.1
    have hz1 := H2.out.2.2.2.2.1
    rw [hz2] at hsz ⊢
    obtain ⟨e, f⟩ := p
    refine ⟨{ tmps := #[netV n (.slice va M vc), .slice xa M xc, .pointer (some ⟨w.heap.size, 0, none⟩), undef, .pointer (some ⟨w.heap.size + 1, 0, none⟩), .pointer (some ⟨W.heap.size, 0, none⟩), .int .i64 f, .agg #[.int .i64 n, .slice va M vc], .bool true, .bool false, .bool false, .slice xa M xc, .int .i64 (M : Int), .pointer (some ⟨w.heap.size, 1, none⟩), .slice va M vc, .int .i64 (M : Int), .bool false, .bool false, .agg #[.int .i64 n, .slice va M vc], .slice xa M xc, .func (.func 35) #[] #[.pointer (some ⟨w1.heap.size, 0, none⟩), .pointer (some ⟨w1.heap.size + 1, 0, none⟩)], edV e, .int .i64 f, undef, undef, undef, undef, undef, undef, undef, undef], defers := [] }, W.alloc (.cells #[.int .i64 e.fr, .int .i64 e.to, .int .i64 e.cap, .int .i64 e.cost] 39), (Below.refl _ _).alloc (Nat.le_refl _) _, fun K hK => ?_, ?_⟩
    · gi_wp2
      exact hK
    rintro W2 ho ⟨g1, g2⟩
    have ce := (Cel.new W #[.int .i64 e.fr, .int .i64 e.to, .int .i64 e.cap, .int .i64 e.cost] 39).only ho (by omega)
    have cR := H2.out.2.2.1.only g1 (by omega)
    have r0 := cR.one
    have r1 := cR.frozen 0
    obtain ⟨e0, e1, e2, e3⟩ := Cel.ed ce
    have ht : (es.zip fl).take (k + 1) = (es.zip fl).take k ++ [(e, f)] := by rw [List.take_add_one, hp]; rfl
    have hmem := List.mem_of_getElem? hp
    have HX := Lib.hid (And.intro g1 (And.intro g2 (And.intro cR (And.intro ht (And.intro hmem hsz)))))
    clear g1 g2 cR ht hmem hp hsz ce h1 h2 ho hz1 hz2
    have hno : ¬ Fits (e, f) → Only (fun q => q ≠ w1.heap.size + 2 ∧ q ≠ w1.heap.size + 2 + 1) W2 (W2.setCell ⟨w.heap.size + 1, 0, none⟩ (.bool false)) ∧ Only (fun q => q = w.heap.size + 1 ∨ w1.heap.size + 2 ≤ q) w2 (W2.setCell ⟨w.heap.size + 1, 0, none⟩ (.bool false)) ∧ Cel (W2.setCell ⟨w.heap.size + 1, 0, none⟩ (.bool false)) (w.heap.size + 1) [.bool false] 4 ∧ b = false := by
      intro h
      have hz1 := H2.out.2.2.2.2.1
      exact ⟨(Only.refl _ _).setCell (p := ⟨w.heap.size + 1, 0, none⟩) (.inl (by simp only; omega)) _, (HX.out.1.mono (fun q _ hq => .inr hq)).setCell (p := ⟨w.heap.size + 1, 0, none⟩) (.inl (.inl rfl)) _, HX.out.2.2.1.set 0 _, HC.out.2.2.2.1 (fun h' => h (h'.2.2 _ HX.out.2.2.2.2.1))⟩
    have HN := Lib.hid hno
    clear hno
    by_cases k1 : f < 0
    · have HF := Lib.hid (HN.out (fun h => by have := h.1; simp only at this; omega))
      gi_wp2
      exact HF.out
    by_cases k2 : e.cap < f
    · have HF := Lib.hid (HN.out (fun h => by have := h.2; simp only at this; omega))
      gi_wp2
      exact HF.out
    have HF := Lib.hid (show Fits (e, f) from ⟨by simp only; omega, by simp only; omega⟩)
    gi_wp2
    exact ⟨Only.refl _ _, HX.out.1, HX.out.2.1.more HX.out.2.2.2.1 HF.out⟩
  case hend =>
    rintro W ⟨h1, h2⟩ hd
    have hz2 := H2.out.2.2.2.1
    have hz1 := H2.out.2.2.2.2.1
    unfold FitTo at h2
    rw [List.take_length] at h2
    obtain rfl := HC.out.2.2.2.2 ⟨HR.out, H2.out.2.2.2.2.2.2, h2⟩
    have cR := H2.out.2.2.1.only h1 (by omega)
    have r0 := cR.one
    have r1 := cR.frozen 0
    rw [hz2] at hd ⊢
    have hbW : Below w.heap.size w W := H2.out.1.trans (h1.below (by omega) (fun q hq => by omega))
    have HX := Lib.hid (And.intro (cR.set 0 (.bool true)) (And.intro ((Below.heap_setCell W ⟨w.heap.size + 1, 0, none⟩ (.bool true) _ (by simp only; omega)).trans hd) (And.intro (hbW.setCell (p := ⟨w.heap.size + 1, 0, none⟩) (by simp) (.bool true)) hz1)))
    clear h1 h2 hd cR hbW hz1 hz2
    go_wp2
    have hz1 := HX.out.2.2.2
    exact ⟨by simp, .inl ⟨_, _, rfl, run_takeDeferred HX.out.2.1, marks_ret rfl rfl HX.out.1 HX.out.2.1 (by omega) HX.out.2.2.1 (by omega)⟩⟩
  case hret =>
    rintro W ⟨h1, h2, h3⟩ hd
    have HX := Lib.hid (And.intro h1 (And.intro h2 (And.intro h3 hd)))
    clear h1 h2 h3 hd
    go_wp2
    obtain ⟨h1, h2, h3, h4⟩ := HX.out
    have hz2 := H2.out.2.2.2.1
    have hz1 := H2.out.2.2.2.2.1
    rw [hz2] at h4
    rw [hz2, h3]
    refine ⟨by simp, .inl ⟨_, _, rfl, run_takeDeferred h4, ?_⟩⟩
    exact marks_ret rfl rfl h2 h4 (by omega) (H2.out.1.trans (h1.below (by omega) (fun q hq => by omega))) (by omega)
end Go.Proofs.Ytmdjgkclbjbdiaa
