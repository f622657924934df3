/- An arc's room, a push on an arc: the document's; condition: a net of at most 2000 edges. -/
import Derived.Test.YtohcoknnalgjnaaRsRef1
namespace Go.Proofs.Ytohcoknnalgjnaa
open Go.RowKit

set_option maxRecDepth 100000 in
set_option maxHeartbeats 4000000 in
theorem rroom_any (n : Int) (es : List Ed) (fl : List Int) (a : Int) (w : World) {v x : Value} (he : Es w v es) (hf : Fs w x fl) (hn : es.length ≤ 2000) :
    Calls Try.prog 16 #[netV n v, x, .int .i64 a] w fun e w' => e = .returned (.int .i64 (roomP n es fl a)) ∧ Below w.heap.size w w' := by
  obtain ⟨va, vc, rfl, -, -⟩ := he.shape
  obtain ⟨xa, xc, rfl, -, -⟩ := hf.shape
  obtain ⟨R, hR⟩ : ∃ R, R = roomP n es fl a := ⟨_, rfl⟩
  have hR1 : ¬ (WithinP n es fl ∧ HasP es a) → R = 0 := fun h => by rw [hR]; unfold roomP; rw [if_neg h]
  have hR2 : WithinP n es fl ∧ HasP es a → R = roomL es fl a := fun h => by rw [hR]; unfold roomP; rw [if_pos h]
  rw [← hR]
  clear hR
  have hK := NQ.box n he (fls := [(.slice xa fl.length xc, fl)]) (fun p hp => by rw [List.mem_singleton.1 hp]; exact hf)
  have HR := Lib.hid (And.intro hR1 (And.intro hR2 hn))
  clear he hf hR1 hR2 hn
  have P := rwithin_any n es fl _ hK.es (hK.fl (.slice xa fl.length xc, fl) (by simp))
  have HK := Lib.hid hK
  clear hK
  go_enter Try.func16, Try.ntmps16
  go_wp2_with fail
  generalize w.alloc (.cells #[.int .i64 n, .slice va es.length vc] 24) = w1 at *
  refine P.mono ?_
  rintro _ w2 ⟨rfl, bl⟩
  have h2 := HK.out.go bl
  clear P HK bl
  by_cases hr : WithinP n es fl
  case neg =>
    rw [decide_eq_false hr]
    obtain rfl := HR.out.1 (fun h => hr h.1)
    have HK := Lib.hid h2
    clear hr h2
    go_wp2
    go_ret
    exact ⟨rfl, HK.out.under⟩
  rw [decide_eq_true hr]
  have P := rhas_any n es a w2 h2.es HR.out.2.2
  obtain ⟨n0, n1⟩ := h2.net.net
  have HK := Lib.hid (And.intro h2 hr)
  clear h2 hr
  go_wp2_with fail
  refine P.mono ?_
  rintro _ w3 ⟨rfl, bl⟩
  have h3 := HK.out.1.go bl
  have hr := HK.out.2
  clear P HK bl n0 n1
  by_cases hh : HasP es a
  case neg =>
    rw [decide_eq_false hh]
    obtain rfl := HR.out.1 (fun h => hh h.2)
    have HK := Lib.hid h3
    clear hr h3 hh
    go_wp2
    go_ret
    exact ⟨rfl, HK.out.under⟩
  rw [decide_eq_true hh]
  obtain rfl := HR.out.2.1 ⟨hr, hh⟩
  obtain ⟨n0, n1⟩ := h3.net.net
  obtain ⟨g, o, vc', e0, hg, -, -, f2, -⟩ := es_at h3.es hh.ed
  simp only [Value.slice.injEq] at e0
  obtain ⟨rfl, -, rfl⟩ := e0
  obtain ⟨g2, o2, xc', e0, hg2, k0⟩ := fs_at (h3.fl (.slice xa fl.length xc, fl) (by simp)) (hh.flw hr.2.1)
  simp only [Value.slice.injEq] at e0
  obtain ⟨rfl, -, rfl⟩ := e0
  have hL := HR.out.2.2
  have hl := hh.lt
  have hfit := hh.fits hr
  have hcw : wrap64 ((edI es a).cap - flI fl a) = (edI es a).cap - flI fl a := by unfold wrap64; omega
  have hX : ∀ (h : a % 2 = 0), roomL es fl a = (edI es a).cap - flI fl a := fun h => by unfold roomL; rw [if_pos h]
  have hY : ∀ (h : ¬ a % 2 = 0), roomL es fl a = flI fl a := fun h => by unfold roomL; rw [if_neg h]
  obtain ⟨m, hm2⟩ : ∃ m : Nat, (a / 2).toNat = m := ⟨_, rfl⟩
  have ha0 : 0 ≤ a := hh.1
  have haM : a ≤ 4611686018427387904 := by have := hh.2; omega
  have hqq := arc_quo ha0 haM hm2
  have hrr := arc_rem ha0
  have hrw := arc_remw ha0
  rw [hm2] at f2 hl k0
  have hlf := hr.2.1
  have hml : (m : Int) < (es.length : Int) := by omega
  have hml2 : (m : Int) < (fl.length : Int) := by omega
  have hm0 : (0 : Int) ≤ (m : Int) := by omega
  have HXY := Lib.hid (And.intro hX hY)
  have HB := Lib.hid h3.under
  clear h3 hX hY hr hh hl hm2 hL HR hfit hlf haM hg hg2
  by_cases hp : a % 2 = 0
  · have hro := HXY.out.1 hp
    go_wp2
    go_quiet (fail)
    go_wp2
    go_ret
    exact ⟨congrArg (fun z => Ending.returned (.int .i64 z)) (hcw.trans hro.symm), below_drewN HB.out _⟩
  · have hro := HXY.out.2 hp
    have hpb : (a % 2 == 0) = false := by simpa using hp
    go_wp2
    go_ret
    exact ⟨congrArg (fun z => Ending.returned (.int .i64 z)) hro.symm, HB.out⟩

set_option maxRecDepth 100000 in
set_option maxHeartbeats 4000000 in
theorem rpush_any (n : Int) (es : List Ed) (fl : List Int) (a b : Int) (w : World) {v x : Value} (he : Es w v es) (hf : Fs w x fl) (hn : es.length ≤ 2000) :
    Calls Try.prog 18 #[netV n v, x, .int .i64 a, .int .i64 b] w fun e w' => ∃ r, e = .returned (.tuple #[r, .int .i64 (alongP n es fl [a] b).2]) ∧ Fs w' r (alongP n es fl [a] b).1 ∧ Below w.heap.size w w' := by
  obtain ⟨va, vc, rfl, -, -⟩ := he.shape
  obtain ⟨xa, xc, rfl, -, -⟩ := hf.shape
  obtain ⟨R, hR⟩ : ∃ R, R = alongP n es fl [a] b := ⟨_, rfl⟩
  have hR0 : ¬ (WithinP n es fl ∧ HasP es a) → R = ([], 1) := fun h => by
    rw [hR]
    unfold alongP
    rw [if_neg]
    exact fun k => h ⟨k.1, way_one.1 k.2.2⟩
  have hR1 : WithinP n es fl ∧ HasP es a → R = if 0 ≤ b then (if b ≤ roomL es fl a then (pushL fl a b, 0) else ([], 7)) else ([], 1) := fun h => by rw [hR]; exact push_eq h.1 h.2
  rw [← hR]
  clear hR
  have hK := NQ.box n he (fls := [(.slice xa fl.length xc, fl)]) (fun p hp => by rw [List.mem_singleton.1 hp]; exact hf)
  have HR := Lib.hid (And.intro hR0 (And.intro hR1 hn))
  clear he hf hR0 hR1 hn
  have P := rwithin_any n es fl _ hK.es (hK.fl (.slice xa fl.length xc, fl) (by simp))
  have HK := Lib.hid hK
  clear hK
  go_enter Try.func18, Try.ntmps18
  go_wp2_with fail
  generalize w.alloc (.cells #[.int .i64 n, .slice va es.length vc] 24) = w1 at *
  refine P.mono ?_
  rintro _ w2 ⟨rfl, bl⟩
  have h2 := HK.out.go bl
  clear P HK bl
  by_cases hr : WithinP n es fl
  case neg =>
    rw [decide_eq_false hr]
    obtain rfl := HR.out.1 (fun h => hr h.1)
    have HK := Lib.hid h2
    clear hr h2
    go_wp2
    go_ret2
    exact ⟨_, rfl, Rd.nil _ _ _, HK.out.under⟩
  rw [decide_eq_true hr]
  have P := rhas_any n es a w2 h2.es HR.out.2.2
  obtain ⟨n0, n1⟩ := h2.net.net
  have HK := Lib.hid (And.intro h2 hr)
  clear h2 hr
  go_wp2_with fail
  refine P.mono ?_
  rintro _ w3 ⟨rfl, bl⟩
  have h3 := HK.out.1.go bl
  have hr := HK.out.2
  clear P HK bl n0 n1
  by_cases hh : HasP es a
  case neg =>
    rw [decide_eq_false hh]
    obtain rfl := HR.out.1 (fun h => hh h.2)
    have HK := Lib.hid h3
    clear hr h3 hh
    go_wp2
    go_ret2
    exact ⟨_, rfl, Rd.nil _ _ _, HK.out.under⟩
  rw [decide_eq_true hh]
  have hRR := HR.out.2.1 ⟨hr, hh⟩
  obtain ⟨n0, n1⟩ := h3.net.net
  by_cases hb0 : 0 ≤ b
  case neg =>
    rw [if_neg hb0] at hRR
    subst hRR
    have hbn : b < 0 := by omega
    have HK := Lib.hid h3
    clear hr h3 hh hb0
    go_wp2
    go_ret2
    exact ⟨_, rfl, Rd.nil _ _ _, HK.out.under⟩
  rw [if_pos hb0] at hRR
  have hbn : ¬ b < 0 := by omega
  have P := rroom_any n es fl a w3 h3.es (h3.fl (.slice xa fl.length xc, fl) (by simp)) HR.out.2.2
  rw [roomP_pos hr hh] at P
  have HK := Lib.hid (And.intro h3 (And.intro hr hh))
  clear h3 hr hh
  go_wp2_with fail
  refine P.mono ?_
  rintro _ w4 ⟨rfl, bl⟩
  obtain ⟨h3, hr, hh⟩ := HK.out
  have h4 := h3.go bl
  clear P HK bl n0 n1 h3
  by_cases hb1 : b ≤ roomL es fl a
  case neg =>
    rw [if_neg hb1] at hRR
    subst hRR
    have hgt : roomL es fl a < b := by omega
    have HK := Lib.hid h4
    clear hr h4 hh hb1
    go_wp2
    go_ret2
    exact ⟨_, rfl, Rd.nil _ _ _, HK.out.under⟩
  rw [if_pos hb1] at hRR
  have hgt : ¬ roomL es fl a < b := by omega
  obtain ⟨g, cap, w5, hap, hrn, hcm, hgw, bl⟩ := fresh_copy fl w4 (h4.fl (.slice xa fl.length xc, fl) (by simp)) (by have := hr.2.1; have := HR.out.2.2; omega)
  have h5 := h4.under.trans (bl.mono h4.under.size)
  have hgw2 : w.heap.size ≤ g := by have := h4.under.size; omega
  obtain ⟨m, hm2⟩ : ∃ m : Nat, (a / 2).toNat = m := ⟨_, rfl⟩
  have ha0 : 0 ≤ a := hh.1
  have haM : a ≤ 4611686018427387904 := by have := hh.2; have := HR.out.2.2; omega
  have hqq := arc_quo ha0 haM hm2
  have hrr := arc_rem ha0
  have hrw := arc_remw ha0
  have hF := hh.flw hr.2.1
  rw [hm2] at hF
  have hmf := (List.getElem?_eq_some_iff.1 hF).1
  have hfit := hh.fits hr
  have hroom : roomL es fl a = if a % 2 = 0 then (edI es a).cap - flI fl a else flI fl a := rfl
  have hpush : pushL fl a b = fl.set m (if a % 2 = 0 then flI fl a + b else flI fl a - b) := by unfold pushL; rw [hm2]
  have c6 := hrn.at hF
  have fr := hrn.frozen m
  have hml2 : (m : Int) < (fl.length : Int) := by omega
  have hm0 : (0 : Int) ≤ (m : Int) := by omega
  have hpl : (fl.set m (if a % 2 = 0 then flI fl a + b else flI fl a - b)).length = fl.length := by simp
  by_cases hp : a % 2 = 0
  · rw [if_pos hp] at hroom hpush hpl
    have hw6 : wrap64 (flI fl a + b) = flI fl a + b := by unfold wrap64; omega
    have hrs := hrn.set hmf (flI fl a + b)
    rw [hpush] at hRR
    subst hRR
    have hfs := hrs.fs hcm
    rw [hpl] at hfs
    have hb6 := h5.setCell (p := ⟨g, m, none⟩) hgw2 (.int .i64 (flI fl a + b))
    have HB := Lib.hid (And.intro hb6 hfs)
    clear h4 hr hh hrn hgw bl h5 hgw2 hF hmf hfit hroom hpush hrs hfs hb6 hpl hm2 haM hb0 hb1 hcm HR
    generalize roomL es fl a = RO at *
    go_wp2_with (at_builtin; refine nlist_append_run rfl (.tmp 31) (.tmp 32) _ rfl rfl rfl hap ?_)
    go_wp2
    go_ret2
    exact ⟨_, rfl, HB.out.2, HB.out.1⟩
  · rw [if_neg hp] at hroom hpush hpl
    have hpb : (a % 2 == 0) = false := by simpa using hp
    have hw6 : wrap64 (flI fl a - b) = flI fl a - b := by unfold wrap64; omega
    have hrs := hrn.set hmf (flI fl a - b)
    rw [hpush] at hRR
    subst hRR
    have hfs := hrs.fs hcm
    rw [hpl] at hfs
    have hb6 := h5.setCell (p := ⟨g, m, none⟩) hgw2 (.int .i64 (flI fl a - b))
    have HB := Lib.hid (And.intro hb6 hfs)
    clear h4 hr hh hrn hgw bl h5 hgw2 hF hmf hfit hroom hpush hrs hfs hb6 hpl hm2 haM hb0 hb1 hcm HR
    generalize roomL es fl a = RO at *
    go_wp2_with (at_builtin; refine nlist_append_run rfl (.tmp 31) (.tmp 32) _ rfl rfl rfl hap ?_)
    go_wp2
    go_ret2
    exact ⟨_, rfl, HB.out.2, HB.out.1⟩
end Go.Proofs.Ytohcoknnalgjnaa
