/- The document's Within, Flows and Cost; no condition. -/
import Derived.Test.YtmdjgkclbjbdiaaNtRefR
namespace Go.Proofs.Ytmdjgkclbjbdiaa
open Go.RowKit

set_option maxRecDepth 100000 in
set_option maxHeartbeats 8000000 in
theorem rwithin_any (n : Int) (es : List Ed) (fl : List Int) (w : World) {v x : Value} (he : Es w v es) (hf : Fs w x fl) :
    Calls Try.prog 16 #[netV n v, x] w fun e w' => e = .returned (.bool (decide (WithinP n es fl))) ∧ Below w.heap.size w w' := by
  obtain ⟨va, vc, rfl, -, -⟩ := he.shape
  obtain ⟨xa, xc, rfl, -, -⟩ := hf.shape
  obtain ⟨b, hbv⟩ : ∃ b, b = decide (WithinP n es fl) := ⟨_, rfl⟩
  have hF : ¬ WithinP n es fl → b = false := fun h => by rw [hbv]; exact decide_eq_false h
  have hT : WithinP n es fl → b = true := fun h => by rw [hbv]; exact decide_eq_true h
  rw [← hbv]
  clear hbv
  obtain ⟨L, hL⟩ : ∃ L, L = es.length := ⟨_, rfl⟩
  obtain ⟨M, hM⟩ : ∃ M, M = fl.length := ⟨_, rfl⟩
  rw [← hL] at he ⊢
  rw [← hM] at hf ⊢
  have hK := NQ.box n he (fls := [(.slice xa M xc, fl)]) (fun p hp => by rw [List.mem_singleton.1 hp]; exact hf)
  have P := rright_any n es _ hK.es
  obtain ⟨n0, n1⟩ := hK.net.net
  have HK := Lib.hid hK
  have HC := Lib.hid (And.intro hL (And.intro hM (And.intro hF hT)))
  clear he hf hK hL hM hF hT
  go_enter Try.func16, Try.ntmps16
  go_wp2_with fail
  generalize w.alloc (.cells #[.int .i64 n, .slice va L vc] 24) = w1 at *
  refine P.mono ?_
  rintro e w2 ⟨rfl, bl⟩
  have h2 := HK.out.go bl
  clear P HK bl n0 n1
  obtain ⟨n0, n1⟩ := h2.net.net
  by_cases hr : RightP n es
  case neg =>
    rw [decide_eq_false hr]
    obtain rfl := HC.out.2.2.1 (fun h => hr h.1)
    have HN := Lib.hid (And.intro hr h2)
    clear hr h2
    go_wp2
    go_ret
    exact ⟨rfl, HN.out.2.under⟩
  rw [decide_eq_true hr]
  by_cases hlm : (M : Int) = (L : Int)
  case neg =>
    obtain rfl := HC.out.2.2.1 (fun h => hlm (by have := h.2.1; rw [HC.out.1, HC.out.2.1]; omega))
    have hq : ((M : Int) != (L : Int)) = true := by simpa using hlm
    have HN := Lib.hid (And.intro hlm h2)
    clear hlm h2 hr
    go_wp2
    go_ret
    exact ⟨rfl, HN.out.2.under⟩
  obtain rfl : M = L := by omega
  have HR := Lib.hid hr
  have HN0 := Lib.hid h2
  clear hlm hr h2
  go_wp2
  go_loopw [5] (fun j wr => ∃ k : Nat, j = .int .i64 (k : Int) ∧ k ≤ M ∧ FitTo (es.zip fl) k ∧ NQ w w.heap.size n (.slice va M vc) es [(.slice xa M xc, fl)] wr) (fun j _ => M - (intOf j).toNat)
  case atStart => exact ⟨0, rfl, Nat.zero_le _, by simp [FitTo], HN0.out⟩
  case round =>
    clear n0 n1 HN0
    obtain ⟨k, rfl, hk, hft, hN⟩ := hrel
    obtain ⟨n0, n1⟩ := hN.net.net
    have hM40 : M ≤ 200 := by have := HR.out.2.2.1; rw [HC.out.1]; exact this
    rcases Nat.lt_or_ge k M with hlt | hge
    · obtain ⟨e, hek⟩ : ∃ e, es[k]? = some e := ⟨_, List.getElem?_eq_getElem (by have := HC.out.1; omega)⟩
      obtain ⟨f, hfk⟩ : ∃ f, fl[k]? = some f := ⟨_, List.getElem?_eq_getElem (by have := HC.out.2.1; omega)⟩
      obtain ⟨g, o, cap, e0, hg, f0, f1, f2, f3⟩ := es_at hN.es hek
      obtain ⟨g2, o2, cap2, e2, hg2, y0⟩ := fs_at (hN.fl (.slice xa M xc, fl) (by simp)) hfk
      simp only [Value.slice.injEq] at e0 e2
      obtain ⟨rfl, -, rfl⟩ := e0
      obtain ⟨rfl, -, rfl⟩ := e2
      have hki : (k : Int) < (M : Int) := by omega
      have hk1 : (k : Int) ≤ 9223372036854775806 := by omega
      have hk0 : (0 : Int) ≤ (k : Int) := by omega
      have hz := zip_get hek hfk
      have ht : (es.zip fl).take (k + 1) = (es.zip fl).take k ++ [(e, f)] := by rw [List.take_add_one, hz]; rfl
      have HX := Lib.hid (And.intro hft (And.intro hN (And.intro hlt (And.intro ht (List.mem_of_getElem? hz)))))
      clear hft hN hlt ht hz hek hfk hg hg2 hk hM40
      by_cases k1 : f < 0
      · obtain rfl := HC.out.2.2.1 (fun h => by have := (h.2.2 _ HX.out.2.2.2.2).1; simp only at this; omega)
        go_wp2
        go_quiet (fail)
        go_wp2
        go_ret
        exact ⟨rfl, (HX.out.2.1.go (below_drewN (Below.refl _ _) _)).under⟩
      by_cases k2 : e.cap < f
      · obtain rfl := HC.out.2.2.1 (fun h => by have := (h.2.2 _ HX.out.2.2.2.2).2; simp only at this; omega)
        go_wp2
        go_quiet (fail)
        go_wp2
        go_ret
        exact ⟨rfl, (HX.out.2.1.go (below_drewN (Below.refl _ _) _)).under⟩
      have HF := Lib.hid (show Fits (e, f) from ⟨by simp only; omega, by simp only; omega⟩)
      go_wp2
      go_quiet (fail)
      go_wp2
      go_roundw
      case rel => exact ⟨k + 1, by go_num, HX.out.2.2.1, HX.out.1.more HX.out.2.2.2.1 HF.out, HX.out.2.1.go (below_drewN (Below.refl _ _) _)⟩
      case measure =>
        have := HX.out.2.2.1
        simp only [intOf]
        omega
    · obtain rfl : k = M := by omega
      have hki : ¬ (k : Int) < (k : Int) := by omega
      have hw : WithinP n es fl := by
        refine ⟨HR.out, by rw [← HC.out.1, ← HC.out.2.1], fun p hp => hft p ?_⟩
        rw [List.take_of_length_le (by rw [List.length_zip, ← HC.out.1, ← HC.out.2.1]; omega)]
        exact hp
      obtain rfl := HC.out.2.2.2 hw
      have HN := Lib.hid hN
      clear hw hN hft hk hge hM40
      go_wp2
      go_ret
      exact ⟨rfl, HN.out.under⟩

theorem costL_take {ls : Load} {k : Nat} {p : Ed × Int} (h : ls[k]? = some p) : costL (ls.take (k + 1)) = costL (ls.take k) + p.2 * p.1.cost := isum_take _ _ h

set_option maxRecDepth 100000 in
set_option maxHeartbeats 8000000 in
theorem rcost_any (n : Int) (es : List Ed) (fl : List Int) (w : World) {v x : Value} (he : Es w v es) (hf : Fs w x fl) :
    Calls Try.prog 20 #[netV n v, x] w fun e w' => e = .returned (.int .i64 (costP n es fl)) ∧ Below w.heap.size w w' := by
  obtain ⟨va, vc, rfl, -, -⟩ := he.shape
  obtain ⟨xa, xc, rfl, -, -⟩ := hf.shape
  obtain ⟨b, hbv⟩ : ∃ b, b = costP n es fl := ⟨_, rfl⟩
  have hF : ¬ WithinP n es fl → b = 0 := fun h => by rw [hbv]; unfold costP; rw [if_neg h]
  have hT : WithinP n es fl → b = costL (es.zip fl) := fun h => by rw [hbv]; unfold costP; rw [if_pos h]
  rw [← hbv]
  clear hbv
  have hK := NQ.box n he (fls := [(.slice xa fl.length xc, fl)]) (fun p hp => by rw [List.mem_singleton.1 hp]; exact hf)
  have P := rwithin_any n es fl _ hK.es (hK.fl (.slice xa fl.length xc, fl) (by simp))
  obtain ⟨n0, n1⟩ := hK.net.net
  have HK := Lib.hid hK
  have HC := Lib.hid (And.intro hF hT)
  clear he hf hK hF hT
  go_enter Try.func20, Try.ntmps20
  go_wp2_with fail
  generalize w.alloc (.cells #[.int .i64 n, .slice va es.length vc] 24) = w1 at *
  refine P.mono ?_
  rintro e w2 ⟨rfl, bl⟩
  have h2 := HK.out.go bl
  clear P HK bl n0 n1
  by_cases hw : WithinP n es fl
  case neg =>
    rw [decide_eq_false hw]
    obtain rfl := HC.out.1 hw
    have HN := Lib.hid (And.intro hw h2)
    clear hw h2
    go_wp2
    go_ret
    exact ⟨rfl, HN.out.2.under⟩
  rw [decide_eq_true hw]
  have hb := HC.out.2 hw
  obtain ⟨M, hM⟩ : ∃ M, M = fl.length := ⟨_, rfl⟩
  have hL : es.length = M := by rw [hM]; exact hw.2.1.symm
  rw [hL] at h2 ⊢
  rw [← hM] at h2 ⊢
  have HR := Lib.hid (And.intro hw (And.intro hb (And.intro hM hL)))
  have HN0 := Lib.hid h2
  clear hw hb h2 hM hL
  go_wp2
  go_loopw [5, 6] (fun s j wr => ∃ k : Nat, j = .int .i64 (k : Int) ∧ k ≤ M ∧ s = .int .i64 (costL ((es.zip fl).take k)) ∧ NQ w w.heap.size n (.slice va M vc) es [(.slice xa M xc, fl)] wr) (fun _ j _ => M - (intOf j).toNat)
  case atStart => exact ⟨0, rfl, Nat.zero_le _, rfl, HN0.out⟩
  case round =>
    clear HN0
    obtain ⟨k, rfl, hk, rfl, hN⟩ := hrel
    obtain ⟨n0, n1⟩ := hN.net.net
    have hM40 : M ≤ 200 := by have := HR.out.1.1.2.2.1; rw [HR.out.2.2.2] at this; exact this
    rcases Nat.lt_or_ge k M with hlt | hge
    · obtain ⟨e, hek⟩ : ∃ e, es[k]? = some e := ⟨_, List.getElem?_eq_getElem (by have := HR.out.2.2.2; omega)⟩
      obtain ⟨f, hfk⟩ : ∃ f, fl[k]? = some f := ⟨_, List.getElem?_eq_getElem (by have := HR.out.2.2.1; omega)⟩
      obtain ⟨g, o, cap, e0, hg, f0, f1, f2, f3⟩ := es_at hN.es hek
      obtain ⟨g2, o2, cap2, e2, hg2, y0⟩ := fs_at (hN.fl (.slice xa M xc, fl) (by simp)) hfk
      simp only [Value.slice.injEq] at e0 e2
      obtain ⟨rfl, -, rfl⟩ := e0
      obtain ⟨rfl, -, rfl⟩ := e2
      have hki : (k : Int) < (M : Int) := by omega
      have hk1 : (k : Int) ≤ 9223372036854775806 := by omega
      have hk0 : (0 : Int) ≤ (k : Int) := by omega
      have hz := zip_get hek hfk
      have hst := costL_take hz
      simp only at hst
      have hsm := zip_small HR.out.1.1.2.2.2.1 HR.out.1.2.2
      have hb1 := part_le HR.out.1.2.2 (fun e he => (HR.out.1.1.2.2.2.1 e he).2.2.2.2.1)
      have hb2 := HR.out.1.1.2.2.2.2
      have hb3 := mul_bounds (hsm _ (List.mem_of_getElem? hz)).1 (hsm _ (List.mem_of_getElem? hz)).2.1 (hsm _ (List.mem_of_getElem? hz)).2.2.1 (hsm _ (List.mem_of_getElem? hz)).2.2.2
      simp only at hb3
      have hck := cost_eq (ls := (es.zip fl).take k) (fun p hp => (hsm p (List.mem_of_mem_take hp)).1)
      have hpu : upN ((es.zip fl).take k) ≤ upN (es.zip fl) := by
        have : upN (es.zip fl) = upN ((es.zip fl).take k) + upN ((es.zip fl).drop k) := by unfold upN; rw [← List.sum_append, ← List.map_append, List.take_append_drop]
        omega
      have hpd : dnN ((es.zip fl).take k) ≤ dnN (es.zip fl) := by
        have : dnN (es.zip fl) = dnN ((es.zip fl).take k) + dnN ((es.zip fl).drop k) := by unfold dnN; rw [← List.sum_append, ← List.map_append, List.take_append_drop]
        omega
      have hw1 : wrap64 (f * e.cost) = f * e.cost := by unfold wrap64; omega
      have hw2 : wrap64 (costL ((es.zip fl).take k) + f * e.cost) = costL ((es.zip fl).take (k + 1)) := by rw [hst]; unfold wrap64; omega
      have HX := Lib.hid (And.intro hN hlt)
      clear hN hlt hz hek hfk hg hg2 hk hM40 hst hsm hb1 hb2 hb3 hck hpu hpd
      go_wp2
      go_quiet (fail)
      go_wp2
      go_roundw
      case rel => exact ⟨k + 1, by go_num, HX.out.2, by first | rfl | rw [hw1, hw2] | rw [hw2], HX.out.1.go (below_drewN (Below.refl _ _) _)⟩
      case measure =>
        have := HX.out.2
        simp only [intOf]
        omega
    · obtain rfl : k = M := by omega
      have hki : ¬ (k : Int) < (k : Int) := by omega
      have hfin : costL ((es.zip fl).take k) = b := by
        rw [HR.out.2.1, List.take_of_length_le (by rw [List.length_zip, HR.out.2.2.2]; omega)]
      rw [hfin]
      have HN := Lib.hid hN
      clear hN hfin hk hge hM40
      go_wp2
      go_ret
      exact ⟨rfl, HN.out.under⟩
end Go.Proofs.Ytmdjgkclbjbdiaa
