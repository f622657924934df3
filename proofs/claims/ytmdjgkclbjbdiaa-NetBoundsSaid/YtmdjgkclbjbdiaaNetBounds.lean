/- The statement NetBounds: a net of one edge is right just if each of its numbers is within its bounds; no condition. -/
import Derived.Test.YtmdjgkclbjbdiaaNtWorks
namespace Go.Proofs.Ytmdjgkclbjbdiaa
open Go.RowKit

theorem right_one (n : Int) (e : Ed) : RightP n [e] ↔ 1 ≤ n ∧ n ≤ 40 ∧ Perm n e := by
  constructor
  · intro h
    exact ⟨h.1, h.2.1, h.2.2.2.1 e (by simp)⟩
  · rintro ⟨h1, h2, h3⟩
    have hs := h3.small.le
    refine ⟨h1, h2, by simp, fun x hx => by rw [List.mem_singleton.1 hx]; exact h3, ?_⟩
    have hc : upT (e, e.cap) + dnT (e, e.cap) ≤ 4503599627370496000 := by
      unfold upT dnT at *
      split <;> simp_all <;> omega
    simp only [full, upN, dnN, List.map_cons, List.map_nil, List.sum_cons, List.sum_nil, Nat.add_zero]
    omega
theorem within_one (n : Int) (e : Ed) (f : Int) : WithinP n [e] [f] ↔ RightP n [e] ∧ 0 ≤ f ∧ f ≤ e.cap := by
  unfold WithinP Fits
  simp
theorem flows_one {n : Int} {e : Ed} (h : RightP n [e]) : FlowsP n [e] [0] := by
  refine ⟨(within_one _ _ _).2 ⟨h, Int.le_refl _, (h.2.2.2.1 e (by simp)).2.2.2.2.1⟩, fun x hx => ?_⟩
  obtain ⟨v, _, rfl⟩ := List.mem_map.1 hx
  simp [ovr, ovT]
theorem cost_one {n : Int} {e : Ed} {f : Int} (h : WithinP n [e] [f]) : costP n [e] [f] = f * e.cost := by
  unfold costP
  rw [if_pos h]
  simp [costL]

/-- What stands while the statement goes on. -/
structure NB (w : World) (c g : Nat) (n : Int) (e : Ed) (W : World) : Prop where
  under : Below w.heap.size w W
  net : Cel W c [.int .i64 n, .slice (some ⟨g, 0, none⟩) 1 1] 24
  es : Es W (.slice (some ⟨g, 0, none⟩) 1 1) [e]
theorem NB.go {w : World} {c g : Nat} {n : Int} {e : Ed} {W W' : World} (h : NB w c g n e W) (hb : Below W.heap.size W W') : NB w c g n e W' :=
  ⟨h.under.trans (hb.mono h.under.size), h.net.below hb h.net.lt, h.es.below hb⟩
theorem NB.lit {w : World} {c g : Nat} {n : Int} {e : Ed} {W : World} (h : NB w c g n e W) (o : Obj) : NB w c g n e (W.alloc o) := h.go ((Below.refl _ _).alloc (Nat.le_refl _) _)

set_option maxRecDepth 100000 in
set_option maxHeartbeats 8000000 in
theorem netBounds_any (n fr tt cap cost : Int) (w : World) {p1 p2 p3 p4 p5 : Prop} (_ : p1) (_ : p2) (_ : p3) (_ : p4) (_ : p5) : Calls Try.prog 7 #[.int .i64 n, .int .i64 fr, .int .i64 tt, .int .i64 cap, .int .i64 cost] w fun e w' => e = .returned (.bool true) ∧ Below w.heap.size w w' := by
  obtain ⟨e, he⟩ : ∃ e : Ed, e = ⟨fr, tt, cap, cost⟩ := ⟨_, rfl⟩
  have key : ¬ 1 ≤ n ∨ (1 ≤ n ∧ ¬ n ≤ 40) ∨ (1 ≤ n ∧ n ≤ 40 ∧ ¬ 0 ≤ fr) ∨ (1 ≤ n ∧ n ≤ 40 ∧ 0 ≤ fr ∧ ¬ fr < n) ∨ (1 ≤ n ∧ n ≤ 40 ∧ 0 ≤ fr ∧ fr < n ∧ ¬ 0 ≤ tt) ∨ (1 ≤ n ∧ n ≤ 40 ∧ 0 ≤ fr ∧ fr < n ∧ 0 ≤ tt ∧ ¬ tt < n) ∨
    (1 ≤ n ∧ n ≤ 40 ∧ 0 ≤ fr ∧ fr < n ∧ 0 ≤ tt ∧ tt < n ∧ ¬ 0 ≤ cap) ∨ (1 ≤ n ∧ n ≤ 40 ∧ 0 ≤ fr ∧ fr < n ∧ 0 ≤ tt ∧ tt < n ∧ 0 ≤ cap ∧ ¬ cap ≤ 4503599627370496) ∨
    (1 ≤ n ∧ n ≤ 40 ∧ 0 ≤ fr ∧ fr < n ∧ 0 ≤ tt ∧ tt < n ∧ 0 ≤ cap ∧ cap ≤ 4503599627370496 ∧ ¬ -1000 ≤ cost) ∨ (1 ≤ n ∧ n ≤ 40 ∧ 0 ≤ fr ∧ fr < n ∧ 0 ≤ tt ∧ tt < n ∧ 0 ≤ cap ∧ cap ≤ 4503599627370496 ∧ -1000 ≤ cost ∧ ¬ cost ≤ 1000) ∨
    (1 ≤ n ∧ n ≤ 40 ∧ 0 ≤ fr ∧ fr < n ∧ 0 ≤ tt ∧ tt < n ∧ 0 ≤ cap ∧ cap ≤ 4503599627370496 ∧ -1000 ≤ cost ∧ cost ≤ 1000) := by
    by_cases k1 : 1 ≤ n
    case neg => exact .inl k1
    right
    by_cases k2 : n ≤ 40
    case neg => exact .inl ⟨k1, k2⟩
    right
    by_cases k3 : 0 ≤ fr
    case neg => exact .inl ⟨k1, k2, k3⟩
    right
    by_cases k4 : fr < n
    case neg => exact .inl ⟨k1, k2, k3, k4⟩
    right
    by_cases k5 : 0 ≤ tt
    case neg => exact .inl ⟨k1, k2, k3, k4, k5⟩
    right
    by_cases k6 : tt < n
    case neg => exact .inl ⟨k1, k2, k3, k4, k5, k6⟩
    right
    by_cases k7 : 0 ≤ cap
    case neg => exact .inl ⟨k1, k2, k3, k4, k5, k6, k7⟩
    right
    by_cases k8 : cap ≤ 4503599627370496
    case neg => exact .inl ⟨k1, k2, k3, k4, k5, k6, k7, k8⟩
    right
    by_cases k9 : -1000 ≤ cost
    case neg => exact .inl ⟨k1, k2, k3, k4, k5, k6, k7, k8, k9⟩
    right
    by_cases k10 : cost ≤ 1000
    case neg => exact .inl ⟨k1, k2, k3, k4, k5, k6, k7, k8, k9, k10⟩
    exact .inr ⟨k1, k2, k3, k4, k5, k6, k7, k8, k9, k10⟩
  have hA := (Below.refl w.heap.size w).alloc (Nat.le_refl _) (.cells #[.int .i64 fr, .int .i64 tt, .int .i64 cap, .int .i64 cost] 39)
  have hK : NB w (w.heap.size + 1) w.heap.size n e ((w.alloc (.cells #[.int .i64 fr, .int .i64 tt, .int .i64 cap, .int .i64 cost] 39)).alloc (.cells #[.int .i64 n, .slice (some ⟨w.heap.size, 0, none⟩) 1 1] 24)) := by
    refine ⟨hA.alloc (by simp) _, ?_, ?_⟩
    · have h := Cel.new (w.alloc (.cells #[.int .i64 fr, .int .i64 tt, .int .i64 cap, .int .i64 cost] 39)) #[.int .i64 n, .slice (some ⟨w.heap.size, 0, none⟩) 1 1] 24
      rw [World.size_alloc] at h
      exact h
    · have h := es_lit w [e] #[.int .i64 fr, .int .i64 tt, .int .i64 cap, .int .i64 cost] (by rw [he]; rfl) (by simp) (n := 1) rfl
      exact h.below ((Below.refl _ _).alloc (Nat.le_refl _) _)
  have P := right_any n [e] _ hK.es
  have HK := Lib.hid hK
  have HE := Lib.hid he
  clear hA hK
  rcases key with k1 | ⟨k1, k2⟩ | ⟨k1, k2, k3⟩ | ⟨k1, k2, k3, k4⟩ | ⟨k1, k2, k3, k4, k5⟩ | ⟨k1, k2, k3, k4, k5, k6⟩ | ⟨k1, k2, k3, k4, k5, k6, k7⟩ | ⟨k1, k2, k3, k4, k5, k6, k7, k8⟩ | ⟨k1, k2, k3, k4, k5, k6, k7, k8, k9⟩ | ⟨k1, k2, k3, k4, k5, k6, k7, k8, k9, k10⟩ | ⟨k1, k2, k3, k4, k5, k6, k7, k8, k9, k10⟩
  case inr.inr.inr.inr.inr.inr.inr.inr.inr.inr =>
    have hr : RightP n [e] := (right_one n e).2 ⟨k1, k2, by rw [he]; unfold Perm; simp only; omega⟩
    rw [decide_eq_true hr] at P
    have HR := Lib.hid hr
    clear he hr
    go_enter Try.func7, Try.ntmps7
    go_wp2_with fail
    generalize (w.alloc (.cells #[.int .i64 fr, .int .i64 tt, .int .i64 cap, .int .i64 cost] 39)).alloc (.cells #[.int .i64 n, .slice (some ⟨w.heap.size, 0, none⟩) 1 1] 24) = w1 at *
    refine P.mono ?_
    rintro r w2 ⟨rfl, b⟩
    have h2 := HK.out.go b
    clear P HK b
    have g1 := flows_one HR.out
    have hcap : e.cap = cap := by rw [HE.out]
    have hcost : e.cost = cost := by rw [HE.out]
    have g2 : WithinP n [e] [cap] := (within_one _ _ _).2 ⟨HR.out, k7, by rw [hcap]; exact Int.le_refl _⟩
    have g3 : ¬ WithinP n [e] [cap + 1] := fun h => by have := ((within_one _ _ _).1 h).2.2; rw [hcap] at this; omega
    have g4 := cost_one g2
    rw [hcost] at g4
    have hb := mul_bounds k7 k8 k9 k10
    have wm : wrap64 (cap * cost) = cap * cost := by unfold wrap64; omega
    have w1' : wrap64 (cap + 1) = cap + 1 := by unfold wrap64; omega
    have HG := Lib.hid (And.intro g1 (And.intro g2 (And.intro g3 g4)))
    clear g1 g2 g3 g4 hcap hcost hb k1 k2 k3 k4 k5 k6 k7 k8 k9 k10
    have hl := fs_lit w2 [0] #[.int .i64 0] rfl (by simp) (n := 1) rfl
    have hm := h2.lit (.cells #[.int .i64 0] 2)
    have P := flows_any n [e] [0] _ hm.es hl
    rw [decide_eq_true HG.out.1] at P
    obtain ⟨n0, n1⟩ := h2.net.net
    have HK := Lib.hid hm
    clear hl hm h2
    go_wp2_with fail
    generalize w2.alloc (.cells #[.int .i64 0] 2) = w3l at *
    refine P.mono ?_
    rintro r w3 ⟨rfl, b⟩
    have h3 := HK.out.go b
    clear P HK b n0 n1
    have hl := fs_lit w3 [cap] #[.int .i64 cap] rfl (by simp) (n := 1) rfl
    have hm := h3.lit (.cells #[.int .i64 cap] 2)
    have P := within_any n [e] [cap] _ hm.es hl
    rw [decide_eq_true HG.out.2.1] at P
    obtain ⟨n0, n1⟩ := h3.net.net
    have HK := Lib.hid hm
    clear hl hm h3
    go_wp2_with fail
    generalize w3.alloc (.cells #[.int .i64 cap] 2) = w4l at *
    refine P.mono ?_
    rintro r w4 ⟨rfl, b⟩
    have h4 := HK.out.go b
    clear P HK b n0 n1
    have hl := fs_lit w4 [cap + 1] #[.int .i64 (cap + 1)] rfl (by simp) (n := 1) rfl
    have hm := h4.lit (.cells #[.int .i64 (cap + 1)] 2)
    have P := within_any n [e] [cap + 1] _ hm.es hl
    rw [decide_eq_false HG.out.2.2.1] at P
    obtain ⟨n0, n1⟩ := h4.net.net
    have HK := Lib.hid hm
    clear hl hm h4
    go_wp2_with fail
    generalize w4.alloc (.cells #[.int .i64 (cap + 1)] 2) = w5l at *
    refine P.mono ?_
    rintro r w5 ⟨rfl, b⟩
    have h5 := HK.out.go b
    clear P HK b n0 n1
    have hl := fs_lit w5 [cap] #[.int .i64 cap] rfl (by simp) (n := 1) rfl
    have hm := h5.lit (.cells #[.int .i64 cap] 2)
    have P := cost_any n [e] [cap] _ hm.es hl
    rw [HG.out.2.2.2] at P
    obtain ⟨n0, n1⟩ := h5.net.net
    have HK := Lib.hid hm
    clear hl hm h5
    go_wp2_with fail
    generalize w5.alloc (.cells #[.int .i64 cap] 2) = w6l at *
    refine P.mono ?_
    rintro r w6 ⟨rfl, b⟩
    have h6 := HK.out.go b
    clear P HK b n0 n1
    have HK := Lib.hid h6
    clear h6
    go_wp2_with fail
    refine (works_any w6).mono ?_
    rintro r w7 ⟨rfl, b⟩
    go_wp2
    go_ret
    exact ⟨rfl, (HK.out.go b).under⟩
  all_goals
    have hr : ¬ RightP n [e] := fun h => by
      have h1 := (right_one n e).1 h
      rw [he] at h1
      unfold Perm at h1
      simp only at h1
      omega
    rw [decide_eq_false hr] at P
    clear he hr
    go_enter Try.func7, Try.ntmps7
    go_wp2_with fail
    generalize (w.alloc (.cells #[.int .i64 fr, .int .i64 tt, .int .i64 cap, .int .i64 cost] 39)).alloc (.cells #[.int .i64 n, .slice (some ⟨w.heap.size, 0, none⟩) 1 1] 24) = w1 at *
    refine P.mono ?_
    rintro r w2 ⟨rfl, b⟩
    have h2 := HK.out.go b
    clear P HK b
    have HK := Lib.hid h2
    clear h2
    go_wp2_with fail
    refine (works_any w2).mono ?_
    rintro r w3 ⟨rfl, b⟩
    go_wp2
    go_ret
    exact ⟨rfl, (HK.out.go b).under⟩
end Go.Proofs.Ytmdjgkclbjbdiaa
