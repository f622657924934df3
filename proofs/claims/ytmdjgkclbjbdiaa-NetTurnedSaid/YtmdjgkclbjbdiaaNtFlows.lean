/- Whether as much comes to each node as goes, and the cost of a flow: the program's Flows and Cost; no condition. -/
import Derived.Test.YtmdjgkclbjbdiaaNtOver
namespace Go.Proofs.Ytmdjgkclbjbdiaa
open Go.RowKit

/-- The first k are none. -/
def NoneTo (l : List Int) (k : Nat) : Prop := ∀ x ∈ l.take k, x = 0
theorem NoneTo.zero (l : List Int) : NoneTo l 0 := by simp [NoneTo]
theorem NoneTo.more {l : List Int} {k : Nat} (h : NoneTo l k) (hx : l[k]? = some 0) : NoneTo l (k + 1) := by
  intro y hy
  rw [List.take_add_one, hx] at hy
  rcases List.mem_append.1 hy with hy | hy
  · exact h y hy
  · simpa using hy

set_option maxRecDepth 100000 in
set_option maxHeartbeats 4000000 in
theorem flows_any (n : Int) (es : List Ed) (fl : List Int) (w : World) {v x : Value} (he : Es w v es) (hf : Fs w x fl) :
    Calls Try.prog 17 #[netV n v, x] w fun e w' => e = .returned (.bool (decide (FlowsP n es fl))) ∧ Below w.heap.size w w' := by
  obtain ⟨va, vc, rfl, -, -⟩ := he.shape
  obtain ⟨xa, xc, rfl, -, -⟩ := hf.shape
  obtain ⟨b, hbv⟩ : ∃ b, b = decide (FlowsP n es fl) := ⟨_, rfl⟩
  have hF : ¬ FlowsP n es fl → b = false := fun h => by rw [hbv]; exact decide_eq_false h
  have hT : FlowsP n es fl → b = true := fun h => by rw [hbv]; exact decide_eq_true h
  rw [← hbv]
  clear hbv
  have hb0 : Below w.heap.size w (w.alloc (.cells #[.int .i64 n, .slice va es.length vc] 24)) := (Below.refl _ _).alloc (Nat.le_refl _) _
  have cN := Cel.new w #[.int .i64 n, .slice va es.length vc] 24
  have PW := within_any n es fl _ (he.below hb0) (hf.below hb0)
  have H0 := Lib.hid (And.intro hb0 (And.intro cN (And.intro PW (And.intro he (And.intro hf (And.intro hF hT))))))
  clear he hf hb0 cN PW hF hT
  go_enter Try.func17, Try.ntmps17
  go_wp2_with fail
  generalize w.alloc (.cells #[.int .i64 n, .slice va es.length vc] 24) = wn at *
  refine H0.out.2.2.1.mono ?_
  rintro e1 w1 ⟨rfl, b1⟩
  obtain ⟨hb0, cN, -, he, hf, hF, hT⟩ := H0.out
  have hb1 := hb0.trans (b1.mono hb0.size)
  have cN1 := cN.below b1 cN.lt
  clear H0 cN hb0 b1
  by_cases hw : WithinP n es fl
  case neg =>
    rw [decide_eq_false hw]
    obtain rfl := hF (fun h => hw h.1)
    have HW := Lib.hid hb1
    clear hw hb1 he hf cN1 hF hT
    go_wp2
    go_ret
    exact ⟨rfl, HW.out⟩
  rw [decide_eq_true hw]
  have PO := over_any n es fl w1 (he.below hb1) (hf.below hb1)
  obtain ⟨n0, n1⟩ := cN1.net
  have H1 := Lib.hid (And.intro hw (And.intro hb1 (And.intro hF hT)))
  clear hw hb1 he hf cN1 hF hT
  go_wp2_with fail
  refine PO.mono ?_
  rintro e2 w2 ⟨r, rfl, hr, b2⟩
  obtain ⟨hw, hb1, hF, hT⟩ := H1.out
  obtain ⟨Z, hZ⟩ : ∃ Z, Z = overP n es fl := ⟨_, rfl⟩
  have hZ2 : Z = overL n (es.zip fl) := by rw [hZ]; unfold overP; rw [if_pos hw]
  rw [← hZ] at hr
  obtain ⟨ra, rc, rfl, -, -⟩ := hr.shape
  obtain ⟨m, hm⟩ : ∃ m, m = Z.length := ⟨_, rfl⟩
  have hml := hr.len
  rw [← hm] at hr hml ⊢
  have H2 := Lib.hid (And.intro (hb1.trans (b2.mono hb1.size)) (And.intro hr (And.intro hm (And.intro (show b = false ∨ True from .inr trivial) (And.intro (show (¬ ∀ x ∈ Z, x = 0) → b = false from fun h => hF (fun h' => h (by rw [hZ2]; exact h'.2))) (show (∀ x ∈ Z, x = 0) → b = true from fun h => hT ⟨hw, by rw [← hZ2]; exact h⟩))))))
  clear hw hb1 hF hT hZ hZ2 hr hm H1 PO b2 n0 n1
  go_wp2
  go_loopw [15] (fun j wr => ∃ k : Nat, j = .int .i64 (k : Int) ∧ k ≤ m ∧ NoneTo Z k ∧ wr = w2) (fun j _ => m - (intOf j).toNat)
  case atStart => exact ⟨0, rfl, Nat.zero_le _, NoneTo.zero _, rfl⟩
  case round =>
    obtain ⟨k, rfl, hk, hn, rfl⟩ := hrel
    rcases Nat.lt_or_ge k m with hlt | hge
    · obtain ⟨y, hy⟩ : ∃ y, Z[k]? = some y := ⟨_, List.getElem?_eq_getElem (by have := H2.out.2.2.1; omega)⟩
      obtain ⟨g, o, cap, e0, hg, f0⟩ := fs_at H2.out.2.1 hy
      simp only [Value.slice.injEq] at e0
      obtain ⟨rfl, -, rfl⟩ := e0
      have hki : (k : Int) < (m : Int) := by omega
      have hk1 : (k : Int) ≤ 9223372036854775806 := by omega
      have hk0 : (0 : Int) ≤ (k : Int) := by omega
      by_cases hy0 : y = 0
      · subst hy0
        have HK := Lib.hid (And.intro hlt (hn.more hy))
        clear hlt hk hn hy hg
        go_wp2
        go_roundw
        case rel => exact ⟨k + 1, by go_num, HK.out.1, HK.out.2, trivial⟩
        case measure =>
          have := HK.out.1
          simp only [intOf]
          omega
      · obtain rfl := H2.out.2.2.2.2.1 (fun h => hy0 (h y (List.mem_of_getElem? hy)))
        have hq : (y != 0) = true := by simpa using hy0
        have HK := Lib.hid hy0
        clear hlt hk hn hy hg hy0
        go_wp2
        go_ret
        exact ⟨rfl, H2.out.1⟩
    · obtain rfl : k = m := by omega
      have hz : ∀ x ∈ Z, x = 0 := by
        unfold NoneTo at hn
        rw [H2.out.2.2.1, List.take_length] at hn
        exact hn
      obtain rfl := H2.out.2.2.2.2.2 hz
      have hki : ¬ (k : Int) < (k : Int) := by omega
      clear hz hn hk hge
      go_wp2
      go_ret
      exact ⟨rfl, H2.out.1⟩

set_option maxRecDepth 100000 in
set_option maxHeartbeats 4000000 in
theorem cost_any (n : Int) (es : List Ed) (fl : List Int) (w : World) {v x : Value} (he : Es w v es) (hf : Fs w x fl) :
    Calls Try.prog 19 #[netV n v, x] w fun e w' => e = .returned (.int .i64 (costP n es fl)) ∧ Below w.heap.size w w' := by
  obtain ⟨va, vc, rfl, -, -⟩ := he.shape
  obtain ⟨xa, xc, rfl, -, -⟩ := hf.shape
  obtain ⟨b, hbv⟩ : ∃ b, b = costP n es fl := ⟨_, rfl⟩
  have hF : ¬ WithinP n es fl → b = 0 := fun h => by rw [hbv]; unfold costP; rw [if_neg h]
  have hT : WithinP n es fl → b = costL (es.zip fl) := fun h => by rw [hbv]; unfold costP; rw [if_pos h]
  rw [← hbv]
  clear hbv
  have hb0 : Below w.heap.size w (w.alloc (.cells #[.int .i64 n, .slice va es.length vc] 24)) := (Below.refl _ _).alloc (Nat.le_refl _) _
  have cN := Cel.new w #[.int .i64 n, .slice va es.length vc] 24
  have PW := within_any n es fl _ (he.below hb0) (hf.below hb0)
  have H0 := Lib.hid (And.intro hb0 (And.intro cN (And.intro PW (And.intro he (And.intro hf (And.intro hF hT))))))
  clear he hf hb0 cN PW hF hT
  go_enter Try.func19, Try.ntmps19
  go_wp2_with fail
  generalize w.alloc (.cells #[.int .i64 n, .slice va es.length vc] 24) = wn at *
  refine H0.out.2.2.1.mono ?_
  rintro e1 w1 ⟨rfl, b1⟩
  obtain ⟨hb0, cN, -, he, hf, hF, hT⟩ := H0.out
  have hb1 := hb0.trans (b1.mono hb0.size)
  have cN1 := cN.below b1 cN.lt
  clear H0 cN hb0 b1
  by_cases hw : WithinP n es fl
  case neg =>
    rw [decide_eq_false hw]
    obtain rfl := hF hw
    have HW := Lib.hid hb1
    clear hw hb1 he hf cN1 hF hT
    go_wp2
    go_ret
    exact ⟨rfl, HW.out⟩
  rw [decide_eq_true hw]
  have hb := hT hw
  obtain ⟨n0, n1⟩ := cN1.net
  have H1 := Lib.hid (And.intro hw (And.intro hb1 (And.intro hb (And.intro he hf))))
  clear hw hb1 he hf cN1 hF hT hb
  go_wp2_with fail
  refine (flowing_any _ _ _ _ _ _ _ _).mono ?_
  rintro e2 w2 ⟨rfl, hw2⟩
  obtain ⟨hw, hb1, hb, he, hf⟩ := H1.out
  have hbz : Below w1.heap.size w1 w2 := by rw [hw2]; exact ((Below.refl _ _).alloc (Nat.le_refl _) _).alloc (by simp) _
  have cX : Cel w2 w1.heap.size [.int .i64 n, .slice va es.length vc] 24 := by rw [hw2]; exact (Cel.new _ _ _).alloc _
  have cY : Cel w2 (w1.heap.size + 1) [.slice xa fl.length xc] 25 := by
    have h := Cel.new (w1.alloc (.cells #[.int .i64 n, .slice va es.length vc] 24)) #[.slice xa fl.length xc] 25
    rw [World.size_alloc] at h
    rw [hw2]
    exact h
  have hb2 := hb1.trans (hbz.mono hb1.size)
  have hlen : (es.zip fl).length ≤ 200 := by have := hw.1.2.2.1; rw [List.length_zip]; omega
  have PC := costs_any (w := w2) flowing_enters (flowing_loads cX (by have := cX.lt; omega) ((he.below hb2).old (Nat.le_refl _)) cY (by have := cY.lt; omega) ((hf.below hb2).old (Nat.le_refl _)) hw.2.1) (zip_small hw.1.2.2.2.1 hw.2.2) hlen
  obtain ⟨h1, h2, h3⟩ := hw.cost
  rw [h3] at hb
  generalize upN (es.zip fl) = U at *
  generalize dnN (es.zip fl) = D at *
  have H2 := Lib.hid (And.intro hb2 (And.intro h1 (And.intro h2 hb)))
  clear hw hb1 hb he hf hbz cX cY hb2 hlen hw2 H1 h1 h2 h3 n0 n1
  go_wp2_with fail
  refine PC.mono ?_
  rintro e3 w3 ⟨rfl, b3⟩
  obtain ⟨hb2, h1, h2, hb⟩ := H2.out
  have hU : (U : Int) % 18446744073709551616 = U := by omega
  have hD : (D : Int) % 18446744073709551616 = D := by omega
  have wU : wrap64 (U : Int) = U := by unfold wrap64; omega
  have wD : wrap64 (D : Int) = D := by unfold wrap64; omega
  have wS : wrap64 ((U : Int) - D) = (U : Int) - D := by unfold wrap64; omega
  have H3 := Lib.hid (And.intro (hb2.trans (b3.mono hb2.size)) hb)
  clear hb2 h1 h2 hb b3 PC H2
  go_wp2
  rw [wS, ← H3.out.2]
  go_ret
  exact ⟨rfl, (H3.out.1.alloc H3.out.1.size _).alloc (by have := H3.out.1.size; simp; omega) _⟩
end Go.Proofs.Ytmdjgkclbjbdiaa
