/- Arcs of a net: the program's edgeOf, leadsBack, has, ends, room; condition: an arc that is there, where it says so. -/
import Derived.Test.YtohcoknnalgjnaaRsBits
import Derived.Test.YtohcoknnalgjnaaNtFlows
import Derived.Test.YtohcoknnalgjnaaNtWorks
import Derived.OwnWalk
namespace Go.Proofs.Ytohcoknnalgjnaa
open Go.RowKit

theorem edgeOf_any (a : Int) (w : World) : Calls Try.prog 39 #[.int .i64 a] w fun e w' => e = .returned (.int .i64 (a / 2)) ∧ w' = w := by
  go_enter Try.func39, Try.ntmps39
  go_wp2
  go_ret
  exact ⟨rfl, rfl⟩
theorem leadsBack_any {a : Int} (h : 0 ≤ a) (h2 : a ≤ 9223372036854775807) (w : World) : Calls Try.prog 40 #[.int .i64 a] w fun e w' => e = .returned (.bool (decide (¬ a % 2 = 0))) ∧ w' = w := by
  have e1 := arc_and h h2
  have e2 : (a % 2 != 0) = decide (¬ a % 2 = 0) := by
    by_cases e : a % 2 = 0 <;> simp [e]
  go_enter Try.func40, Try.ntmps40
  go_wp2
  go_ret
  rw [← e2]
  exact ⟨rfl, rfl⟩
set_option maxRecDepth 100000 in
theorem has_any (n : Int) (es : List Ed) (a : Int) (w : World) {v : Value} (he : Es w v es) : Calls Try.prog 31 #[netV n v, .int .i64 a] w fun e w' => e = .returned (.bool (decide (HasP es a))) ∧ Below w.heap.size w w' := by
  obtain ⟨va, vc, rfl, -, -⟩ := he.shape
  clear he
  obtain ⟨b, hbv⟩ : ∃ b, b = decide (HasP es a) := ⟨_, rfl⟩
  have hT : HasP es a → b = true := fun h => by rw [hbv]; exact decide_eq_true h
  have hF : ¬ HasP es a → b = false := fun h => by rw [hbv]; exact decide_eq_false h
  rw [← hbv]
  clear hbv
  unfold HasP at hT hF
  generalize es.length = L at *
  have HB := Lib.hid ((Below.refl w.heap.size w).alloc (Nat.le_refl _) (.cells #[.int .i64 n, .slice va L vc] 24))
  by_cases h0 : 0 ≤ a
  case neg =>
    obtain rfl := hF (fun h => h0 h.1)
    have h0i : decide ((0 : Int) ≤ a) = false := decide_eq_false h0
    clear hT hF h0
    go_enter Try.func31, Try.ntmps31
    go_wp2
    go_quiet (fail)
    go_wp2
    go_ret
    exact ⟨rfl, below_drewN HB.out _⟩
  have hb : decide (a / 2 < (L : Int)) = b := by
    by_cases h1 : a / 2 < (L : Int)
    · rw [hT ⟨h0, h1⟩]; exact decide_eq_true h1
    · rw [hF (fun h => h1 h.2)]; exact decide_eq_false h1
  have n1 := (Cel.new w #[.int .i64 n, .slice va L vc] 24).net
  clear hT hF
  go_enter Try.func31, Try.ntmps31
  go_wp2
  go_quiet ((go_at_call 39; exact Calls.quiet_of_same (edgeOf_any _ _)))
  go_wp2
  go_ret
  exact ⟨rfl, below_drewN HB.out _⟩

set_option maxRecDepth 100000 in
set_option maxHeartbeats 4000000 in
theorem aends_any (n : Int) (es : List Ed) (a : Int) (w : World) {v : Value} (he : Es w v es) (ha : HasP es a) (hr : RightP n es) :
    Calls Try.prog 32 #[netV n v, .int .i64 a] w fun e w' => e = .returned (.tuple #[.int .i64 (frA es a), .int .i64 (toA es a), .int .i64 (coA es a)]) ∧ Below w.heap.size w w' := by
  have hm : a ≤ 9223372036854775807 := by have := hr.2.2.1; have := ha.2; omega
  have hcw : wrap64 (-(edI es a).cost) = -(edI es a).cost := by
    have := hr.2.2.2.1 _ ha.mem
    unfold Perm at this
    unfold wrap64
    omega
  clear hr
  obtain ⟨g, o, vc, rfl, hg, f0, f1, f2, f3⟩ := es_at he ha.ed
  have hX : ∀ (h : a % 2 = 0), frA es a = (edI es a).fr ∧ toA es a = (edI es a).to ∧ coA es a = (edI es a).cost := fun h => by unfold frA toA coA; simp only [if_pos h]; exact ⟨trivial, trivial, trivial⟩
  have hY : ∀ (h : ¬ a % 2 = 0), frA es a = (edI es a).to ∧ toA es a = (edI es a).fr ∧ coA es a = -(edI es a).cost := fun h => by unfold frA toA coA; simp only [if_neg h]; exact ⟨trivial, trivial, trivial⟩
  generalize frA es a = X at *
  generalize toA es a = Y at *
  generalize coA es a = Z at *
  have HXY := Lib.hid (And.intro hX hY)
  clear hX hY
  have hl := ha.lt
  generalize es.length = L at *
  have h0 : 0 ≤ a := ha.1
  obtain ⟨m, hm2⟩ : ∃ m : Nat, (a / 2).toNat = m := ⟨_, rfl⟩
  have hm3 : a / 2 = (m : Int) := by omega
  rw [hm2] at f0 f1 f2 f3 hl
  have hml : (m : Int) < (L : Int) := by omega
  have hm0 : (0 : Int) ≤ (m : Int) := by omega
  have PE := fun W => edgeOf_any a W
  rw [hm3] at PE
  go_enter Try.func32, Try.ntmps32
  go_upto_region 1 with fail
  have n1 := (Cel.new w #[.int .i64 n, .slice (some ⟨g, o, none⟩) L vc] 24).net
  obtain ⟨c0, c1⟩ := n1
  have HA := Lib.hid ha
  clear he ha hm2 hm3 hl
  go_cut [7] from 8 to 13 (fun s wx => s = .pointer (some ⟨w.heap.size + 1, 0, none⟩) ∧ wx = ((w.alloc (.cells #[.int .i64 n, .slice (some ⟨g, o, none⟩) L vc] 24)).alloc (.cells #[.int .i64 (edI es a).fr, .int .i64 (edI es a).to, .int .i64 (edI es a).cap, .int .i64 (edI es a).cost] 44)).drew)
  case first =>
    go_region_with (go_at_call 39; refine (PE _).mono ?_; rintro _ _ ⟨rfl, rfl⟩)
    all_goals (go_wp2_with fail; go_meet; exact ⟨by simp, rfl⟩)
  case rest =>
  obtain ⟨rfl, rfl⟩ := hcut
  have ce : Cel ((w.alloc (.cells #[.int .i64 n, .slice (some ⟨g, o, none⟩) L vc] 24)).alloc (.cells #[.int .i64 (edI es a).fr, .int .i64 (edI es a).to, .int .i64 (edI es a).cap, .int .i64 (edI es a).cost] 44)).drew (w.heap.size + 1) [.int .i64 (edI es a).fr, .int .i64 (edI es a).to, .int .i64 (edI es a).cap, .int .i64 (edI es a).cost] 44 := by
    have h := Cel.new (w.alloc (.cells #[.int .i64 n, .slice (some ⟨g, o, none⟩) L vc] 24)) #[.int .i64 (edI es a).fr, .int .i64 (edI es a).to, .int .i64 (edI es a).cap, .int .i64 (edI es a).cost] 44
    rw [World.size_alloc] at h
    exact h.kept rfl
  have hb : Below w.heap.size w ((w.alloc (.cells #[.int .i64 n, .slice (some ⟨g, o, none⟩) L vc] 24)).alloc (.cells #[.int .i64 (edI es a).fr, .int .i64 (edI es a).to, .int .i64 (edI es a).cap, .int .i64 (edI es a).cost] 44)).drew := (((Below.refl _ _).alloc (Nat.le_refl _) _).alloc (by simp) _).drew
  generalize ((w.alloc (.cells #[.int .i64 n, .slice (some ⟨g, o, none⟩) L vc] 24)).alloc (.cells #[.int .i64 (edI es a).fr, .int .i64 (edI es a).to, .int .i64 (edI es a).cap, .int .i64 (edI es a).cost] 44)).drew = wd at *
  obtain ⟨e0, e1, e2, e3⟩ := Cel.ed ce
  have hc1 : wrap64 (-(edI es a).cost) = -(edI es a).cost := hcw
  have HB := Lib.hid hb
  clear hb ce c0 c1 f0 f1 f2 f3 hcw
  go_wp2_with fail
  refine (leadsBack_any h0 hm wd).mono ?_
  rintro _ _ ⟨rfl, rfl⟩
  by_cases he : a % 2 = 0
  · have e5 : decide (¬ a % 2 = 0) = false := by simp [he]
    rw [e5]
    obtain ⟨rfl, rfl, rfl⟩ := HXY.out.1 he
    clear e5 he
    go_wp2
    go_quiet (fail)
    go_wp2
    refine bodyPost_ret (results_tmp3 rfl _ _ _) rfl ?_
    exact ⟨rfl, below_drewN HB.out _⟩
  · have e5 : decide (¬ a % 2 = 0) = true := by simp [he]
    rw [e5]
    obtain ⟨rfl, rfl, rfl⟩ := HXY.out.2 he
    clear e5 he
    go_wp2
    go_quiet (fail)
    go_wp2
    refine bodyPost_ret (results_tmp3 rfl _ _ _) rfl ?_
    exact ⟨congrArg (fun z => Ending.returned (.tuple #[.int .i64 (edI es a).to, .int .i64 (edI es a).fr, .int .i64 z])) hc1, below_drewN HB.out _⟩
end Go.Proofs.Ytohcoknnalgjnaa
