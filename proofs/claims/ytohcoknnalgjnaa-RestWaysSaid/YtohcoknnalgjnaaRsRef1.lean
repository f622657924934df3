/- An arc's ends and room, a push on an arc: the document's; condition: a net of at most 2000 edges. -/
import Derived.Test.YtohcoknnalgjnaaRsEnds
import Derived.Test.YtohcoknnalgjnaaRsBackP
import Derived.Test.YtohcoknnalgjnaaNtRefC
namespace Go.Proofs.Ytohcoknnalgjnaa
open Go.RowKit

theorem arc_quo {a : Int} (h0 : 0 ≤ a) (h1 : a ≤ 4611686018427387904) {m : Nat} (hm : (a / 2).toNat = m) : wrap64 (a.tdiv 2) = (m : Int) := by
  rw [Int.tdiv_eq_ediv_of_nonneg h0]
  unfold wrap64
  omega
theorem arc_rem {a : Int} (h0 : 0 ≤ a) : a.tmod 2 = a % 2 := Int.tmod_eq_emod_of_nonneg h0
theorem arc_remw {a : Int} (h0 : 0 ≤ a) : wrap64 (a.tmod 2) = a % 2 := by
  rw [arc_rem h0]
  unfold wrap64
  omega
set_option maxRecDepth 100000 in
theorem rhas_any (n : Int) (es : List Ed) (a : Int) (w : World) {v : Value} (he : Es w v es) (hn : es.length ≤ 2000) : Calls Try.prog 34 #[netV n v, .int .i64 a] w fun e w' => e = .returned (.bool (decide (HasP es a))) ∧ Below w.heap.size w w' := by
  obtain ⟨va, vc, rfl, -, -⟩ := he.shape
  clear he
  obtain ⟨b, hbv⟩ : ∃ b, b = decide (HasP es a) := ⟨_, rfl⟩
  have hT : HasP es a → b = true := fun h => by rw [hbv]; exact decide_eq_true h
  have hF : ¬ HasP es a → b = false := fun h => by rw [hbv]; exact decide_eq_false h
  rw [← hbv]
  clear hbv
  unfold HasP at hT hF
  generalize es.length = L at *
  have HB := Lib.hid ((Below.refl w.heap.size w).alloc (Nat.le_refl _) (.cells #[.int .i64 n, .slice va L vc] 24))
  have n1 := (Cel.new w #[.int .i64 n, .slice va L vc] 24).net
  have hw2 : wrap64 (2 * (L : Int)) = 2 * (L : Int) := by unfold wrap64; omega
  by_cases h0 : 0 ≤ a
  case neg =>
    obtain rfl := hF (fun h => h0 h.1)
    have h0i : ¬ (0 : Int) ≤ a := h0
    clear hT hF h0 hn
    go_enter Try.func34, Try.ntmps34
    go_wp2
    go_ret
    exact ⟨rfl, HB.out⟩
  by_cases h1 : a < 2 * (L : Int)
  · obtain rfl := hT ⟨h0, by omega⟩
    clear hT hF hn
    go_enter Try.func34, Try.ntmps34
    go_wp2
    go_ret
    exact ⟨rfl, HB.out⟩
  · obtain rfl := hF (fun h => h1 (by omega))
    have h1i : ¬ a < 2 * (L : Int) := h1
    clear hT hF hn h1
    go_enter Try.func34, Try.ntmps34
    go_wp2
    go_ret
    exact ⟨rfl, HB.out⟩

set_option maxRecDepth 100000 in
set_option maxHeartbeats 4000000 in
theorem rends_any (n : Int) (es : List Ed) (a : Int) (w : World) {v : Value} (he : Es w v es) (hn : es.length ≤ 2000) :
    Calls Try.prog 14 #[netV n v, .int .i64 a] w fun e w' => e = .returned (endsV (endsP n es a)) ∧ Below w.heap.size w w' := by
  obtain ⟨va, vc, rfl, -, -⟩ := he.shape
  obtain ⟨R, hR⟩ : ∃ R, R = endsP n es a := ⟨_, rfl⟩
  have hR1 : ¬ (RightP n es ∧ HasP es a) → R = (0, 0, 0) := fun h => by rw [hR]; unfold endsP; rw [if_neg h]
  have hR2 : RightP n es ∧ HasP es a → R = (frA es a, toA es a, coA es a) := fun h => by rw [hR]; unfold endsP; rw [if_pos h]
  rw [← hR]
  clear hR
  have hK := NQ.box n he (fls := []) (fun p hp => by cases hp)
  have HR := Lib.hid (And.intro hR1 (And.intro hR2 hn))
  clear he hR1 hR2 hn
  have P := rright_any n es _ hK.es
  have HK := Lib.hid hK
  clear hK
  go_enter Try.func14, Try.ntmps14
  go_wp2_with fail
  generalize w.alloc (.cells #[.int .i64 n, .slice va es.length vc] 24) = w1 at *
  refine P.mono ?_
  rintro _ w2 ⟨rfl, bl⟩
  have h2 := HK.out.go bl
  clear P HK bl
  by_cases hr : RightP n es
  case neg =>
    rw [decide_eq_false hr]
    obtain rfl := HR.out.1 (fun h => hr h.1)
    have HK := Lib.hid h2
    clear hr h2
    go_wp2
    go_ret3
    exact ⟨rfl, HK.out.under⟩
  rw [decide_eq_true hr]
  have P := rhas_any n es a w2 h2.es HR.out.2.2
  obtain ⟨n0, n1⟩ := h2.net.net
  have HK := Lib.hid (And.intro h2 hr)
  clear h2 hr
  go_wp2_with fail
  refine P.mono ?_
  rintro _ w3 ⟨rfl, bl⟩
  have h3 := HK.out.1.go bl
  have hr := HK.out.2
  clear P HK bl n0 n1
  by_cases hh : HasP es a
  case neg =>
    rw [decide_eq_false hh]
    obtain rfl := HR.out.1 (fun h => hh h.2)
    have HK := Lib.hid h3
    clear hr h3 hh
    go_wp2
    go_ret3
    exact ⟨rfl, HK.out.under⟩
  rw [decide_eq_true hh]
  obtain ⟨n0, n1⟩ := h3.net.net
  obtain ⟨g, o, vc', e0, hg, f0, f1, f2, f3⟩ := es_at h3.es hh.ed
  simp only [Value.slice.injEq] at e0
  obtain ⟨rfl, -, rfl⟩ := e0
  have hL := HR.out.2.2
  have hl := hh.lt

  have hX : ∀ (h : a % 2 = 0), frA es a = (edI es a).fr ∧ toA es a = (edI es a).to ∧ coA es a = (edI es a).cost := fun h => by unfold frA toA coA; simp only [if_pos h]; exact ⟨trivial, trivial, trivial⟩
  have hY : ∀ (h : ¬ a % 2 = 0), frA es a = (edI es a).to ∧ toA es a = (edI es a).fr ∧ coA es a = -(edI es a).cost := fun h => by unfold frA toA coA; simp only [if_neg h]; exact ⟨trivial, trivial, trivial⟩
  have hpe := hr.2.2.2.1 _ hh.mem
  have hcw : wrap64 (-(edI es a).cost) = -(edI es a).cost := by unfold Perm at hpe; unfold wrap64; omega
  obtain ⟨m, hm2⟩ : ∃ m : Nat, (a / 2).toNat = m := ⟨_, rfl⟩
  have ha0 : 0 ≤ a := hh.1
  have hqq := arc_quo ha0 (by omega) hm2
  have hrr := arc_rem ha0
  have hrw := arc_remw ha0
  rw [hm2] at f0 f1 f2 f3 hl
  have hml : (m : Int) < (es.length : Int) := by omega
  have hm0 : (0 : Int) ≤ (m : Int) := by omega
  have HXY := Lib.hid (And.intro hX (And.intro hY (HR.out.2.1 ⟨hr, hh⟩)))
  have hb := (Below.refl w3.heap.size w3).alloc (Nat.le_refl _) (.cells #[.int .i64 (edI es a).fr, .int .i64 (edI es a).to, .int .i64 (edI es a).cap, .int .i64 (edI es a).cost] 44)
  have HB := Lib.hid (h3.go hb).under
  have ce := Cel.new w3 #[.int .i64 (edI es a).fr, .int .i64 (edI es a).to, .int .i64 (edI es a).cap, .int .i64 (edI es a).cost] 44
  obtain ⟨z0, z1, z2, z3⟩ := Cel.ed ce
  clear h3 hX hY hr hh hpe hl hm2 hb ce hL HR
  go_upto_region 4 with fail
  clear f0 f1 f2 f3 n0 n1 hqq hml hm0
  generalize w3.alloc (.cells #[.int .i64 (edI es a).fr, .int .i64 (edI es a).to, .int .i64 (edI es a).cap, .int .i64 (edI es a).cost] 44) = w4 at *
  obtain ⟨X, Y, RR⟩ := HXY.out
  by_cases hp : a % 2 = 0
  · obtain ⟨e1, e2, e3⟩ := X hp
    rw [e1, e2, e3] at RR
    subst RR
    clear X Y e1 e2 e3 HXY
    go_wp2
    go_quiet (fail)
    go_wp2
    go_ret3
    exact ⟨rfl, below_drewN HB.out _⟩
  · obtain ⟨e1, e2, e3⟩ := Y hp
    rw [e1, e2, e3] at RR
    subst RR
    have hpb : (a % 2 == 0) = false := by simpa using hp
    clear X Y e1 e2 e3 HXY
    go_wp2
    go_quiet (fail)
    go_wp2
    go_ret3
    exact ⟨congrArg (fun z => Ending.returned (.tuple #[.int .i64 (edI es a).to, .int .i64 (edI es a).fr, .int .i64 z])) hcw, below_drewN HB.out _⟩
end Go.Proofs.Ytohcoknnalgjnaa
