/- The statements' anchor: the chapter's examples; no condition. -/
import Derived.Test.YtmdjgkclbjbdiaaNtFlows
import Derived.Test.YtmdjgkclbjbdiaaNtSame
namespace Go.Proofs.Ytmdjgkclbjbdiaa
open Go.RowKit

def exEs : List Ed := [⟨0, 1, 5, 2⟩, ⟨1, 2, 4, -3⟩, ⟨2, 0, 9, 0⟩, ⟨1, 1, 1, 7⟩]
theorem load_net {w : World} {g : Nat} {n : Int} {a : Option Addr} {k c : Nat} (h : Cel w g [.int .i64 n, .slice a k c] 24) : (loadVar 24 ⟨g, 0, none⟩).run Try.prog w = .ok (netV n (.slice a k c)) w := by
  obtain ⟨c0, c1⟩ := h.net
  go_simp

/-- A literal of numbers. -/
theorem fs_lit (w : World) (l : List Int) (cs : Array Value) (hcs : cs = (ivL l).toArray) (hn : l.length ≤ 1000) {n : Nat} (hn' : n = l.length) : Fs (w.alloc (.cells cs 2)) (.slice (some ⟨w.heap.size, 0, none⟩) n n) l := by
  have h := rd_lit kdI w 2 (fun _ => False) (fun _ h => h.elim) l cs (by rw [kdI_cells]; exact hcs) (fun _ _ => trivial) hn hn'
  rwa [show l.map kdI.con = l from List.map_id l] at h
theorem es_lit (w : World) (es : List Ed) (cs : Array Value) (hcs : cs = (kdEd.cells es).toArray) (hn : es.length ≤ 1000) {n : Nat} (hn' : n = es.length) : Es (w.alloc (.cells cs 39)) (.slice (some ⟨w.heap.size, 0, none⟩) n n) es := by
  have h := rd_lit kdEd w 39 (fun _ => False) (fun _ h => h.elim) es cs hcs (fun _ _ => trivial) hn hn'
  rwa [show es.map kdEd.con = es from List.map_id es] at h

set_option maxRecDepth 100000 in
theorem example_any (w : World) : Calls Try.prog 25 #[] w fun e w' => ∃ v, e = .returned (netV 3 v) ∧ Es w' v exEs ∧ Below w.heap.size w w' := by
  go_enter Try.func25, Try.ntmps25
  go_wp2
  refine bodyPost_ret (jresults_cell rfl rfl (load_net ((Cel.new w _ _).alloc _))) rfl ?_
  refine ⟨_, rfl, ?_, ((Below.refl _ _).alloc (Nat.le_refl _) _).alloc (by simp) _⟩
  have h := es_lit (w.alloc (.cells #[.int .i64 3, .slice (some ⟨w.heap.size + 1, 0, none⟩) 4 4] 24)) exEs _ rfl (by decide) (n := 4) rfl
  rw [World.size_alloc] at h
  exact h

theorem ex_right : RightP 3 exEs := by decide
theorem ex_flows : FlowsP 3 exEs [4, 4, 4, 1] := by decide
theorem ex_not : ¬ FlowsP 3 exEs [5, 4, 4, 0] := by decide
theorem ex_out : ¬ WithinP 3 exEs [5, 5, 5, 0] := by decide
theorem ex_over : overP 3 exEs [5, 4, 4, 1] = [-1, 1, 0] := by unfold overP; rw [if_pos (by decide)]; rfl
theorem ex_cost : costP 3 exEs [5, 4, 4, 1] = 5 := by unfold costP; rw [if_pos (by decide)]; rfl
theorem ex_none : ¬ RightP 0 [] := by decide

/-- What stands while the anchor goes on. -/
structure WK (w : World) (c d : Nat) (va : Option Addr) (vc : Nat) (W : World) : Prop where
  under : Below w.heap.size w W
  net : Cel W c [.int .i64 3, .slice va 4 vc] 24
  es : Es W (.slice va 4 vc) exEs
  fl : Fs W (.slice (some ⟨d, 0, none⟩) 4 4) [5, 4, 4, 1]
theorem WK.go {w : World} {c d : Nat} {va : Option Addr} {vc : Nat} {W W' : World} (h : WK w c d va vc W) (hb : Below W.heap.size W W') : WK w c d va vc W' :=
  ⟨h.under.trans (hb.mono h.under.size), h.net.below hb h.net.lt, h.es.below hb, h.fl.below hb⟩
theorem WK.lit {w : World} {c d : Nat} {va : Option Addr} {vc : Nat} {W : World} (h : WK w c d va vc W) (o : Obj) : WK w c d va vc (W.alloc o) := h.go ((Below.refl _ _).alloc (Nat.le_refl _) _)

set_option maxRecDepth 100000 in
set_option maxHeartbeats 4000000 in
theorem works_any (w : World) : Calls Try.prog 10 #[] w fun e w' => e = .returned (.bool true) ∧ Below w.heap.size w w' := by
  go_enter Try.func10, Try.ntmps10
  go_wp2_with fail
  refine (example_any w).mono ?_
  rintro e w1 ⟨v, rfl, he, b1⟩
  obtain ⟨va, vc, rfl, -, -⟩ := he.shape
  have he : Es w1 (.slice va 4 vc) exEs := he
  rw [show exEs.length = 4 from rfl]
  have hA := (Below.refl w1.heap.size w1).alloc (Nat.le_refl _) (.cells #[.int .i64 3, .slice va 4 vc] 24)
  have hB := (Below.refl (w1.alloc (.cells #[.int .i64 3, .slice va 4 vc] 24)).heap.size (w1.alloc (.cells #[.int .i64 3, .slice va 4 vc] 24))).alloc (Nat.le_refl _) (.cells #[.int .i64 5, .int .i64 4, .int .i64 4, .int .i64 1] 2)
  have hK : WK w w1.heap.size (w1.heap.size + 1) va vc ((w1.alloc (.cells #[.int .i64 3, .slice va 4 vc] 24)).alloc (.cells #[.int .i64 5, .int .i64 4, .int .i64 4, .int .i64 1] 2)) := by
    refine ⟨(b1.trans (hA.mono b1.size)).trans (hB.mono (by simp only [World.size_alloc]; have := b1.size; omega)), (Cel.new w1 _ _).alloc _, (he.below hA).below hB, ?_⟩
    have h := fs_lit (w1.alloc (.cells #[.int .i64 3, .slice va 4 vc] 24)) [5, 4, 4, 1] #[.int .i64 5, .int .i64 4, .int .i64 4, .int .i64 1] rfl (by decide) (n := 4) rfl
    rw [World.size_alloc] at h
    exact h
  have P := right_any 3 exEs _ hK.es
  rw [decide_eq_true ex_right] at P
  have HK := Lib.hid hK
  clear hK hA hB he b1
  go_wp2_with fail
  generalize (w1.alloc (.cells #[.int .i64 3, .slice va 4 vc] 24)).alloc (.cells #[.int .i64 5, .int .i64 4, .int .i64 4, .int .i64 1] 2) = w2 at *
  refine P.mono ?_
  rintro e w3 ⟨rfl, b3⟩
  have h3 := HK.out.go b3
  clear P HK b3
  have hl := fs_lit w3 [4, 4, 4, 1] #[.int .i64 4, .int .i64 4, .int .i64 4, .int .i64 1] rfl (by decide) (n := 4) rfl
  have hm := h3.lit (.cells #[.int .i64 4, .int .i64 4, .int .i64 4, .int .i64 1] 2)
  have P := flows_any 3 exEs [4, 4, 4, 1] _ hm.es hl
  rw [decide_eq_true ex_flows] at P
  obtain ⟨n0, n1⟩ := h3.net.net
  have HK := Lib.hid hm
  clear hl hm h3
  go_wp2_with fail
  generalize w3.alloc (.cells #[.int .i64 4, .int .i64 4, .int .i64 4, .int .i64 1] 2) = w4l at *
  refine P.mono ?_
  rintro e w4 ⟨rfl, b⟩
  have h4 := HK.out.go b
  clear P HK b n0 n1
  have hl := fs_lit w4 [5, 4, 4, 0] #[.int .i64 5, .int .i64 4, .int .i64 4, .int .i64 0] rfl (by decide) (n := 4) rfl
  have hm := h4.lit (.cells #[.int .i64 5, .int .i64 4, .int .i64 4, .int .i64 0] 2)
  have P := flows_any 3 exEs [5, 4, 4, 0] _ hm.es hl
  rw [decide_eq_false ex_not] at P
  obtain ⟨n0, n1⟩ := h4.net.net
  have HK := Lib.hid hm
  clear hl hm h4
  go_wp2_with fail
  generalize w4.alloc (.cells #[.int .i64 5, .int .i64 4, .int .i64 4, .int .i64 0] 2) = w5l at *
  refine P.mono ?_
  rintro e w5 ⟨rfl, b⟩
  have h5 := HK.out.go b
  clear P HK b n0 n1
  have hl := fs_lit w5 [5, 5, 5, 0] #[.int .i64 5, .int .i64 5, .int .i64 5, .int .i64 0] rfl (by decide) (n := 4) rfl
  have hm := h5.lit (.cells #[.int .i64 5, .int .i64 5, .int .i64 5, .int .i64 0] 2)
  have P := within_any 3 exEs [5, 5, 5, 0] _ hm.es hl
  rw [decide_eq_false ex_out] at P
  obtain ⟨n0, n1⟩ := h5.net.net
  have HK := Lib.hid hm
  clear hl hm h5
  go_wp2_with fail
  generalize w5.alloc (.cells #[.int .i64 5, .int .i64 5, .int .i64 5, .int .i64 0] 2) = w6l at *
  refine P.mono ?_
  rintro e w6 ⟨rfl, b⟩
  have h6 := HK.out.go b
  clear P HK b n0 n1
  have P := over_any 3 exEs [5, 4, 4, 1] _ h6.es h6.fl
  rw [ex_over] at P
  obtain ⟨n0, n1⟩ := h6.net.net
  have HK := Lib.hid h6
  clear h6
  go_wp2_with fail
  refine P.mono ?_
  rintro e w7 ⟨r, rfl, hr, b⟩
  obtain ⟨ra, rc, rfl, -, -⟩ := hr.shape
  have hr : Fs w7 (.slice ra 3 rc) [-1, 1, 0] := hr
  rw [show ([-1, 1, 0] : List Int).length = 3 from rfl]
  have h7 := HK.out.go b
  clear P HK b n0 n1
  have hl := fs_lit w7 [-1, 1, 0] #[.int .i64 (-1), .int .i64 1, .int .i64 0] rfl (by decide) (n := 3) rfl
  have hm := h7.lit (.cells #[.int .i64 (-1), .int .i64 1, .int .i64 0] 2)
  have hr2 := hr.below ((Below.refl w7.heap.size w7).alloc (Nat.le_refl _) (.cells #[.int .i64 (-1), .int .i64 1, .int .i64 0] 2))
  have P := nsame_any _ _ _ hr2 hl
  rw [decide_eq_true rfl] at P
  have HK := Lib.hid hm
  clear hl hm h7 hr hr2
  go_wp2_with fail
  generalize w7.alloc (.cells #[.int .i64 (-1), .int .i64 1, .int .i64 0] 2) = w7l at *
  refine P.mono ?_
  rintro e w8 ⟨rfl, b⟩
  have h8 := HK.out.go b
  clear P HK b
  have P := cost_any 3 exEs [5, 4, 4, 1] _ h8.es h8.fl
  rw [ex_cost] at P
  obtain ⟨n0, n1⟩ := h8.net.net
  have HK := Lib.hid h8
  clear h8
  go_wp2_with fail
  refine P.mono ?_
  rintro e w9 ⟨rfl, b⟩
  have h9 := HK.out.go b
  clear P HK b n0 n1
  have P := right_any 0 [] w9 (Rd.nil _ _ _)
  rw [decide_eq_false ex_none] at P
  have HK := Lib.hid h9
  clear h9
  go_wp2_with fail
  refine P.mono ?_
  rintro e w10 ⟨rfl, b⟩
  have h10 := HK.out.go b
  clear P HK b
  have HK := Lib.hid h10
  clear h10
  go_wp2
  go_ret
  exact ⟨rfl, HK.out.under⟩
end Go.Proofs.Ytmdjgkclbjbdiaa
