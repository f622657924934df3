/- An arc's ends and room, a push on an arc: the program's Ends, Room, Push; no condition. -/
import Derived.Test.YtohcoknnalgjnaaRsAlong
namespace Go.Proofs.Ytohcoknnalgjnaa
open Go.RowKit

abbrev endsV (p : Int × Int × Int) : Value := .tuple #[.int .i64 p.1, .int .i64 p.2.1, .int .i64 p.2.2]

set_option maxRecDepth 100000 in
set_option maxHeartbeats 4000000 in
theorem ends_any (n : Int) (es : List Ed) (a : Int) (w : World) {v : Value} (he : Es w v es) :
    Calls Try.prog 13 #[netV n v, .int .i64 a] w fun e w' => e = .returned (endsV (endsP n es a)) ∧ Below w.heap.size w w' := by
  obtain ⟨va, vc, rfl, -, -⟩ := he.shape
  obtain ⟨R, hR⟩ : ∃ R, R = endsP n es a := ⟨_, rfl⟩
  have hR1 : ¬ (RightP n es ∧ HasP es a) → R = (0, 0, 0) := fun h => by rw [hR]; unfold endsP; rw [if_neg h]
  have hR2 : RightP n es ∧ HasP es a → R = (frA es a, toA es a, coA es a) := fun h => by rw [hR]; unfold endsP; rw [if_pos h]
  rw [← hR]
  clear hR
  have hK := NQ.box n he (fls := []) (fun p hp => by cases hp)
  have HR := Lib.hid (And.intro hR1 hR2)
  clear he hR1 hR2
  have P := right_any n es _ hK.es
  have HK := Lib.hid hK
  clear hK
  go_enter Try.func13, Try.ntmps13
  go_wp2_with fail
  generalize w.alloc (.cells #[.int .i64 n, .slice va es.length vc] 24) = w1 at *
  refine P.mono ?_
  rintro _ w2 ⟨rfl, bl⟩
  have h2 := HK.out.go bl
  clear P HK bl
  by_cases hr : RightP n es
  case neg =>
    rw [decide_eq_false hr]
    obtain rfl := HR.out.1 (fun h => hr h.1)
    have HK := Lib.hid h2
    clear hr h2
    go_wp2
    go_ret3
    exact ⟨rfl, HK.out.under⟩
  rw [decide_eq_true hr]
  have P := has_any n es a w2 h2.es
  obtain ⟨n0, n1⟩ := h2.net.net
  have HK := Lib.hid (And.intro h2 hr)
  clear h2 hr
  go_wp2_with fail
  refine P.mono ?_
  rintro _ w3 ⟨rfl, bl⟩
  have h3 := HK.out.1.go bl
  have hr := HK.out.2
  clear P HK bl n0 n1
  by_cases hh : HasP es a
  case neg =>
    rw [decide_eq_false hh]
    obtain rfl := HR.out.1 (fun h => hh h.2)
    have HK := Lib.hid h3
    clear hr h3 hh
    go_wp2
    go_ret3
    exact ⟨rfl, HK.out.under⟩
  rw [decide_eq_true hh]
  obtain rfl := HR.out.2 ⟨hr, hh⟩
  have P := aends_any n es a w3 h3.es hh hr
  obtain ⟨n0, n1⟩ := h3.net.net
  have HK := Lib.hid h3
  clear h3 hr hh HR
  go_wp2_with fail
  refine P.mono ?_
  rintro _ w4 ⟨rfl, bl⟩
  have HB := Lib.hid (HK.out.go bl).under
  clear P HK bl n0 n1
  go_wp2
  go_ret3
  exact ⟨rfl, HB.out⟩

set_option maxRecDepth 100000 in
set_option maxHeartbeats 4000000 in
theorem room_any (n : Int) (es : List Ed) (fl : List Int) (a : Int) (w : World) {v x : Value} (he : Es w v es) (hf : Fs w x fl) :
    Calls Try.prog 15 #[netV n v, x, .int .i64 a] w fun e w' => e = .returned (.int .i64 (roomP n es fl a)) ∧ Below w.heap.size w w' := by
  obtain ⟨va, vc, rfl, -, -⟩ := he.shape
  obtain ⟨xa, xc, rfl, -, -⟩ := hf.shape
  obtain ⟨R, hR⟩ : ∃ R, R = roomP n es fl a := ⟨_, rfl⟩
  have hR1 : ¬ (WithinP n es fl ∧ HasP es a) → R = 0 := fun h => by rw [hR]; unfold roomP; rw [if_neg h]
  have hR2 : WithinP n es fl ∧ HasP es a → R = roomL es fl a := fun h => by rw [hR]; unfold roomP; rw [if_pos h]
  rw [← hR]
  clear hR
  have hK := NQ.box n he (fls := [(.slice xa fl.length xc, fl)]) (fun p hp => by rw [List.mem_singleton.1 hp]; exact hf)
  have HR := Lib.hid (And.intro hR1 hR2)
  clear he hf hR1 hR2
  have P := within_any n es fl _ hK.es (hK.fl (.slice xa fl.length xc, fl) (by simp))
  have HK := Lib.hid hK
  clear hK
  go_enter Try.func15, Try.ntmps15
  go_wp2_with fail
  generalize w.alloc (.cells #[.int .i64 n, .slice va es.length vc] 24) = w1 at *
  refine P.mono ?_
  rintro _ w2 ⟨rfl, bl⟩
  have h2 := HK.out.go bl
  clear P HK bl
  by_cases hr : WithinP n es fl
  case neg =>
    rw [decide_eq_false hr]
    obtain rfl := HR.out.1 (fun h => hr h.1)
    have HK := Lib.hid h2
    clear hr h2
    go_wp2
    go_ret
    exact ⟨rfl, HK.out.under⟩
  rw [decide_eq_true hr]
  have P := has_any n es a w2 h2.es
  obtain ⟨n0, n1⟩ := h2.net.net
  have HK := Lib.hid (And.intro h2 hr)
  clear h2 hr
  go_wp2_with fail
  refine P.mono ?_
  rintro _ w3 ⟨rfl, bl⟩
  have h3 := HK.out.1.go bl
  have hr := HK.out.2
  clear P HK bl n0 n1
  by_cases hh : HasP es a
  case neg =>
    rw [decide_eq_false hh]
    obtain rfl := HR.out.1 (fun h => hh h.2)
    have HK := Lib.hid h3
    clear hr h3 hh
    go_wp2
    go_ret
    exact ⟨rfl, HK.out.under⟩
  rw [decide_eq_true hh]
  obtain rfl := HR.out.2 ⟨hr, hh⟩
  have P := aroom_any n es fl a w3 h3.es (h3.fl (.slice xa fl.length xc, fl) (by simp)) hh hr
  obtain ⟨n0, n1⟩ := h3.net.net
  have HK := Lib.hid h3
  clear h3 hr hh HR
  go_wp2_with fail
  refine P.mono ?_
  rintro _ w4 ⟨rfl, bl⟩
  have HB := Lib.hid (HK.out.go bl).under
  clear P HK bl n0 n1
  go_wp2
  go_ret
  exact ⟨rfl, HB.out⟩

theorem way_one {es : List Ed} {a : Int} : WayP es [a] ↔ HasP es a := by
  unfold WayP
  simp [wayTo, wayT, List.range_succ]

set_option maxRecDepth 100000 in
set_option maxHeartbeats 4000000 in
theorem push_any (n : Int) (es : List Ed) (fl : List Int) (a b : Int) (w : World) {v x : Value} (he : Es w v es) (hf : Fs w x fl) :
    Calls Try.prog 17 #[netV n v, x, .int .i64 a, .int .i64 b] w fun e w' => ∃ r, e = .returned (.tuple #[r, .int .i64 (alongP n es fl [a] b).2]) ∧ Fs w' r (alongP n es fl [a] b).1 ∧ Below w.heap.size w w' ∧
      ((alongP n es fl [a] b).2 = 0 → ∃ g cap, r = .slice (some ⟨g, 0, none⟩) fl.length cap ∧ Rn w' g cap (alongP n es fl [a] b).1 ∧ cap ≤ maxLen ∧ w.heap.size ≤ g) := by
  obtain ⟨va, vc, rfl, -, -⟩ := he.shape
  obtain ⟨xa, xc, rfl, -, -⟩ := hf.shape
  have hb := (Below.refl w.heap.size w).alloc (Nat.le_refl _) (.cells #[.int .i64 n, .slice va es.length vc] 24)
  have hb2 := hb.alloc (by simp) (.cells #[.int .i64 a] 3)
  have P := along_any n es fl [a] b _ (he.below hb2) (hf.below hb2) (y := .slice (some ⟨w.heap.size + 1, 0, none⟩) 1 1) (by
    have h := rd_lit kdI (w.alloc (.cells #[.int .i64 n, .slice va es.length vc] 24)) 3 (fun _ => False) (fun _ h => h.elim) [a] #[.int .i64 a] rfl (fun _ _ => trivial) (by simp) (n := 1) rfl
    rw [World.size_alloc] at h
    exact h)
  have HB := Lib.hid (And.intro hb2 (And.intro he hf))
  clear hb hb2 he hf
  generalize alongP n es fl [a] b = R at *
  go_enter Try.func17, Try.ntmps17
  go_wp2_with fail
  refine P.mono ?_
  rintro _ w4 ⟨r, rfl, h1, h2, h3⟩
  have HX := Lib.hid (And.intro h1 (And.intro h2 h3))
  clear h1 h2 h3
  go_wp2
  go_ret2
  obtain ⟨h1, h2, h3⟩ := HX.out
  exact ⟨_, rfl, h1, HB.out.1.trans (h2.mono HB.out.1.size), fun h => let ⟨g, cap, k1, k2, k3, k4⟩ := h3 h; ⟨g, cap, k1, k2, k3, by have := HB.out.1.size; omega⟩⟩
end Go.Proofs.Ytohcoknnalgjnaa
