/- The statements' anchor: the chapter's examples; no condition. -/
import Derived.Test.YtohcoknnalgjnaaRsBottle
import Derived.Test.YtohcoknnalgjnaaNtSame
import Derived.Laws.ResultCell
namespace Go.Proofs.Ytohcoknnalgjnaa
open Go.RowKit

def exR : List Ed := [⟨0, 1, 5, 2⟩, ⟨1, 0, 3, -1⟩]
theorem arcs_lit (w : World) (l : List Int) (cs : Array Value) (hcs : cs = (ivL l).toArray) (hn : l.length ≤ 1000) {n : Nat} (hn' : n = l.length) : Fs (w.alloc (.cells cs 3)) (.slice (some ⟨w.heap.size, 0, none⟩) n n) l := by
  have h := rd_lit kdI w 3 (fun _ => False) (fun _ h => h.elim) l cs (by rw [kdI_cells]; exact hcs) (fun _ _ => trivial) hn hn'
  rwa [show l.map kdI.con = l from List.map_id l] at h
theorem rresults_ct {P : Program} {fn : Func} {p u : Tmp} {ty : TypeId} (h : fn.results = #[.cell p ty, .tmp u]) {tmps : Array Value} {w : World} {a : Addr} {v x : Value} (hp : tmps.getD p undef = .pointer (some a)) (hl : (loadVar ty a).run P w = .ok v w) (hx : tmps.getD u undef = x) :
    (results fn tmps).run P w = .ok (.tuple #[v, x]) w := by
  rw [results_cell_tmp h, hp, hx]
  simp only [asAddr]
  simp [Result.andThen, hl]

set_option maxRecDepth 100000 in
theorem example12_any (w : World) : Calls Try.prog 29 #[] w fun e w' => ∃ v x, e = .returned (.tuple #[netV 2 v, x]) ∧ Es w' v exR ∧ Fs w' x [2, 0] ∧ Below w.heap.size w w' := by
  go_enter Try.func29, Try.ntmps29
  go_wp2
  refine bodyPost_ret (rresults_ct rfl rfl (load_net (((Cel.new w _ _).alloc _).alloc _)) rfl) rfl ?_
  have hb := (((Below.refl w.heap.size w).alloc (Nat.le_refl _) (.cells #[.int .i64 2, .slice (some ⟨w.heap.size + 1, 0, none⟩) 2 2] 24)).alloc (by simp) (.cells #[.int .i64 0, .int .i64 1, .int .i64 5, .int .i64 2, .int .i64 1, .int .i64 0, .int .i64 3, .int .i64 (-1)] 44)).alloc (by simp; omega) (.cells #[.int .i64 2, .int .i64 0] 2)
  have h := es_lit (w.alloc (.cells #[.int .i64 2, .slice (some ⟨w.heap.size + 1, 0, none⟩) 2 2] 24)) exR _ rfl (by decide) (n := 2) rfl
  rw [World.size_alloc] at h
  have k := fs_lit ((w.alloc (.cells #[.int .i64 2, .slice (some ⟨w.heap.size + 1, 0, none⟩) 2 2] 24)).alloc (.cells (kdEd.cells exR).toArray 44)) [2, 0] _ rfl (by decide) (n := 2) rfl
  rw [World.size_alloc, World.size_alloc] at k
  exact ⟨_, _, rfl, h.below ((Below.refl _ _).alloc (Nat.le_refl _) _), k, hb⟩

theorem exr_ends : endsP 2 exR 1 = (1, 0, -2) := by unfold endsP; rw [if_pos (by decide)]; rfl
theorem exr_p1 : alongP 2 exR [2, 0] [1] 2 = ([0, 0], 0) := by unfold alongP; rw [if_pos (by decide)]; rfl
theorem exr_p2 : alongP 2 exR [2, 0] [1] 3 = ([], 7) := by unfold alongP; rw [if_pos (by decide)]; rfl
theorem exr_a1 : alongP 2 exR [2, 0] [0, 1] 3 = ([2, 0], 0) := by unfold alongP; rw [if_pos (by decide)]; rfl
theorem exr_a2 : alongP 2 exR [2, 0] [0, 3] 1 = ([], 1) := by unfold alongP; rw [if_neg (by decide)]
theorem exr_b1 : bottleP 2 exR [2, 0] [0, 2] = 3 := by unfold bottleP; rw [if_pos (by decide)]; decide
theorem exr_b2 : bottleP 2 exR [2, 0] [0, 0] = 0 := by unfold bottleP; rw [if_neg (by decide)]
theorem exr_room : roomP 2 exR [2, 0] 2 = 3 := by unfold roomP; rw [if_pos (by decide)]; rfl
theorem NQ.lit {w : World} {c : Nat} {n : Int} {v : Value} {es : List Ed} {fls : List (Value × List Int)} {W : World} (h : NQ w c n v es fls W) (o : Obj) : NQ w c n v es fls (W.alloc o) := h.go ((Below.refl _ _).alloc (Nat.le_refl _) _)

set_option maxRecDepth 100000 in
set_option maxHeartbeats 8000000 in
theorem works12_any (w : World) : Calls Try.prog 10 #[] w fun e w' => e = .returned (.bool true) ∧ Below w.heap.size w w' := by
  go_enter Try.func10, Try.ntmps10
  go_wp2_with fail
  refine (example12_any w).mono ?_
  rintro e w1 ⟨v, x, rfl, he, hf, bl⟩
  obtain ⟨va, vc, rfl, -, -⟩ := he.shape
  obtain ⟨xa, xc, rfl, -, -⟩ := hf.shape
  have he : Es w1 (.slice va 2 vc) exR := he
  have hf : Fs w1 (.slice xa 2 xc) [2, 0] := hf
  rw [show exR.length = 2 from rfl, show ([2, 0] : List Int).length = 2 from rfl]
  have hA := (Below.refl w1.heap.size w1).alloc (Nat.le_refl _) (.cells #[.int .i64 2, .slice va 2 vc] 24)
  have hN : NQ w w1.heap.size 2 (.slice va 2 vc) exR [(.slice xa 2 xc, [2, 0])] (w1.alloc (.cells #[.int .i64 2, .slice va 2 vc] 24)) :=
    ⟨bl.trans (hA.mono bl.size), Cel.new _ _ _, he.below hA, fun p hp => by rw [List.mem_singleton.1 hp]; exact hf.below hA⟩
  clear he hf bl hA
  obtain ⟨n0, n1⟩ := hN.net.net
  have P := ends_any 2 exR 1 _ hN.es
  rw [exr_ends] at P
  have HN := Lib.hid (hN)
  clear hN
  go_wp2_with fail
  generalize w1.alloc (.cells #[.int .i64 2, .slice va 2 vc] 24) = wl1 at *
  refine P.mono ?_
  rintro _ w2 ⟨rfl, bl⟩
  have hN := HN.out
  replace hN := hN.go bl
  clear P HN bl n0 n1
  obtain ⟨n0, n1⟩ := hN.net.net
  have P := push_any 2 exR [2, 0] 1 2 _ hN.es (hN.fl (.slice xa 2 xc, [2, 0]) (by simp))
  rw [exr_p1] at P
  have HN := Lib.hid (hN)
  clear hN
  go_wp2_with fail
  refine P.mono ?_
  rintro _ w3 ⟨ra, rfl, hra, bl, -⟩
  have hN := HN.out
  replace hN := hN.go bl
  clear P HN bl n0 n1
  obtain ⟨aa, ac, rfl, -, -⟩ := hra.shape
  replace hra : Fs _ (.slice aa 2 ac) [0, 0] := hra
  simp only [show ([0, 0] : List Int).length = 2 from rfl]
  obtain ⟨n0, n1⟩ := hN.net.net
  have P := push_any 2 exR [2, 0] 1 3 _ hN.es (hN.fl (.slice xa 2 xc, [2, 0]) (by simp))
  rw [exr_p2] at P
  have HN := Lib.hid (And.intro hN (hra))
  clear hN hra
  go_wp2_with fail
  refine P.mono ?_
  rintro _ w4 ⟨rb, rfl, -, bl, -⟩
  obtain ⟨hN, hra⟩ := HN.out
  have hra := hra.below bl
  replace hN := hN.go bl
  clear P HN bl n0 n1
  obtain ⟨n0, n1⟩ := hN.net.net
  have hl := arcs_lit w4 [0, 1] #[.int .i64 0, .int .i64 1] rfl (by decide) (n := 2) rfl
  have hra := hra.below ((Below.refl w4.heap.size w4).alloc (Nat.le_refl _) (.cells #[.int .i64 0, .int .i64 1] 3))
  have hN := hN.lit (.cells #[.int .i64 0, .int .i64 1] 3)
  have P := along_any 2 exR [2, 0] [0, 1] 3 _ hN.es (hN.fl (.slice xa 2 xc, [2, 0]) (by simp)) hl
  rw [exr_a1] at P
  have HN := Lib.hid (And.intro hN (hra))
  clear hN hra hl
  go_wp2_with fail
  generalize w4.alloc (.cells #[.int .i64 0, .int .i64 1] 3) = wl4 at *
  refine P.mono ?_
  rintro _ w5 ⟨rc, rfl, hrc, bl, -⟩
  obtain ⟨hN, hra⟩ := HN.out
  have hra := hra.below bl
  replace hN := hN.go bl
  clear P HN bl n0 n1
  obtain ⟨ba, bc, rfl, -, -⟩ := hrc.shape
  replace hrc : Fs _ (.slice ba 2 bc) [2, 0] := hrc
  simp only [show ([2, 0] : List Int).length = 2 from rfl]
  obtain ⟨n0, n1⟩ := hN.net.net
  have hl := arcs_lit w5 [0, 3] #[.int .i64 0, .int .i64 3] rfl (by decide) (n := 2) rfl
  have hra := hra.below ((Below.refl w5.heap.size w5).alloc (Nat.le_refl _) (.cells #[.int .i64 0, .int .i64 3] 3))
  have hrc := hrc.below ((Below.refl w5.heap.size w5).alloc (Nat.le_refl _) (.cells #[.int .i64 0, .int .i64 3] 3))
  have hN := hN.lit (.cells #[.int .i64 0, .int .i64 3] 3)
  have P := along_any 2 exR [2, 0] [0, 3] 1 _ hN.es (hN.fl (.slice xa 2 xc, [2, 0]) (by simp)) hl
  rw [exr_a2] at P
  have HN := Lib.hid (And.intro hN (And.intro hra (hrc)))
  clear hN hra hrc hl
  go_wp2_with fail
  generalize w5.alloc (.cells #[.int .i64 0, .int .i64 3] 3) = wl5 at *
  refine P.mono ?_
  rintro _ w6 ⟨rd, rfl, -, bl, -⟩
  obtain ⟨hN, hra, hrc⟩ := HN.out
  have hra := hra.below bl
  have hrc := hrc.below bl
  replace hN := hN.go bl
  clear P HN bl n0 n1
  obtain ⟨n0, n1⟩ := hN.net.net
  have hl := fs_lit w6 [0, 0] #[.int .i64 0, .int .i64 0] rfl (by decide) (n := 2) rfl
  have hra := hra.below ((Below.refl w6.heap.size w6).alloc (Nat.le_refl _) (.cells #[.int .i64 0, .int .i64 0] 2))
  have hrc := hrc.below ((Below.refl w6.heap.size w6).alloc (Nat.le_refl _) (.cells #[.int .i64 0, .int .i64 0] 2))
  have hN := hN.lit (.cells #[.int .i64 0, .int .i64 0] 2)
  have P := nsame_any [0, 0] [0, 0] _ hra hl
  rw [decide_eq_true rfl] at P
  have HN := Lib.hid (And.intro hN (And.intro hra (hrc)))
  clear hN hra hrc hl
  go_wp2_with fail
  generalize w6.alloc (.cells #[.int .i64 0, .int .i64 0] 2) = wl6 at *
  refine P.mono ?_
  rintro _ w7 ⟨rfl, bl⟩
  obtain ⟨hN, hra, hrc⟩ := HN.out
  have hra := hra.below bl
  have hrc := hrc.below bl
  replace hN := hN.go bl
  clear P HN bl n0 n1
  obtain ⟨n0, n1⟩ := hN.net.net
  have P := nsame_any [2, 0] [2, 0] _ hrc (hN.fl (.slice xa 2 xc, [2, 0]) (by simp))
  rw [decide_eq_true rfl] at P
  have HN := Lib.hid (And.intro hN (hrc))
  clear hN hrc
  go_wp2_with fail
  refine P.mono ?_
  rintro _ w8 ⟨rfl, bl⟩
  obtain ⟨hN, hrc⟩ := HN.out
  have hrc := hrc.below bl
  replace hN := hN.go bl
  clear P HN bl n0 n1
  obtain ⟨n0, n1⟩ := hN.net.net
  have hl := arcs_lit w8 [0, 2] #[.int .i64 0, .int .i64 2] rfl (by decide) (n := 2) rfl
  have hN := hN.lit (.cells #[.int .i64 0, .int .i64 2] 3)
  have P := bottle_any 2 exR [2, 0] [0, 2] _ hN.es (hN.fl (.slice xa 2 xc, [2, 0]) (by simp)) hl
  rw [exr_b1] at P
  have HN := Lib.hid (hN)
  clear hN hl
  go_wp2_with fail
  generalize w8.alloc (.cells #[.int .i64 0, .int .i64 2] 3) = wl8 at *
  refine P.mono ?_
  rintro _ w9 ⟨rfl, bl⟩
  have hN := HN.out
  replace hN := hN.go bl
  clear P HN bl n0 n1
  obtain ⟨n0, n1⟩ := hN.net.net
  have hl := arcs_lit w9 [0, 0] #[.int .i64 0, .int .i64 0] rfl (by decide) (n := 2) rfl
  have hN := hN.lit (.cells #[.int .i64 0, .int .i64 0] 3)
  have P := bottle_any 2 exR [2, 0] [0, 0] _ hN.es (hN.fl (.slice xa 2 xc, [2, 0]) (by simp)) hl
  rw [exr_b2] at P
  have HN := Lib.hid (hN)
  clear hN hl
  go_wp2_with fail
  generalize w9.alloc (.cells #[.int .i64 0, .int .i64 0] 3) = wl9 at *
  refine P.mono ?_
  rintro _ w10 ⟨rfl, bl⟩
  have hN := HN.out
  replace hN := hN.go bl
  clear P HN bl n0 n1
  obtain ⟨n0, n1⟩ := hN.net.net
  have P := room_any 2 exR [2, 0] 2 _ hN.es (hN.fl (.slice xa 2 xc, [2, 0]) (by simp))
  rw [exr_room] at P
  have HN := Lib.hid (hN)
  clear hN
  go_wp2_with fail
  refine P.mono ?_
  rintro _ w11 ⟨rfl, bl⟩
  have hN := HN.out
  replace hN := hN.go bl
  clear P HN bl n0 n1
  have HB := Lib.hid hN.under
  clear hN
  go_wp2
  go_ret
  exact ⟨rfl, HB.out⟩
end Go.Proofs.Ytohcoknnalgjnaa
