/- How much more may be pushed on an arc: the program's room; condition: an arc that is there, a flow that is within. -/
import Derived.Test.YtohcoknnalgjnaaRsCalls
namespace Go.Proofs.Ytohcoknnalgjnaa
open Go.RowKit

set_option maxRecDepth 100000 in
set_option maxHeartbeats 4000000 in
theorem aroom_any (n : Int) (es : List Ed) (fl : List Int) (a : Int) (w : World) {v x : Value} (he : Es w v es) (hf : Fs w x fl) (ha : HasP es a) (hw : WithinP n es fl) :
    Calls Try.prog 35 #[netV n v, x, .int .i64 a] w fun e w' => e = .returned (.int .i64 (roomL es fl a)) ∧ Below w.heap.size w w' := by
  have hm : a ≤ 9223372036854775807 := by have := hw.1.2.2.1; have := ha.2; omega
  have hcw : wrap64 ((edI es a).cap - flI fl a) = (edI es a).cap - flI fl a := by
    have := ha.fits hw
    unfold wrap64
    omega
  have hX : ∀ (h : a % 2 = 0), roomL es fl a = (edI es a).cap - flI fl a := fun h => by unfold roomL; rw [if_pos h]
  have hY : ∀ (h : ¬ a % 2 = 0), roomL es fl a = flI fl a := fun h => by unfold roomL; rw [if_neg h]
  obtain ⟨g, o, vc, rfl, hg, f0, f1, f2, f3⟩ := es_at he ha.ed
  obtain ⟨g2, o2, xc, rfl, hg2, k0⟩ := fs_at hf (ha.flw hw.2.1)
  have hl := ha.lt
  rw [hw.2.1] at hf ⊢
  clear hw he hf
  generalize es.length = L at *
  generalize roomL es fl a = X at *
  generalize flI fl a = F at *
  have h0 : 0 ≤ a := ha.1
  obtain ⟨m, hm2⟩ : ∃ m : Nat, (a / 2).toNat = m := ⟨_, rfl⟩
  have hm3 : a / 2 = (m : Int) := by omega
  rw [hm2] at f0 f1 f2 f3 hl k0
  have hml : (m : Int) < (L : Int) := by omega
  have hm0 : (0 : Int) ≤ (m : Int) := by omega
  have PE := fun W => edgeOf_any a W
  rw [hm3] at PE
  have hb := (Below.refl w.heap.size w).alloc (Nat.le_refl _) (.cells #[.int .i64 n, .slice (some ⟨g, o, none⟩) L vc] 24)
  have n1 := (Cel.new w #[.int .i64 n, .slice (some ⟨g, o, none⟩) L vc] 24).net
  have c2 := (hb.cell hg).trans f2
  have c3 := (hb.cell hg2).trans k0
  have HXY := Lib.hid (And.intro hX hY)
  have HB := Lib.hid hb
  clear hX hY ha hl hm2 hm3 hg hg2 f0 f1 f2 f3 k0 hb
  go_enter Try.func35, Try.ntmps35
  go_wp2_with fail
  generalize w.alloc (.cells #[.int .i64 n, .slice (some ⟨g, o, none⟩) L vc] 24) = wn at *
  refine (PE _).mono ?_
  rintro _ _ ⟨rfl, rfl⟩
  go_wp2_with fail
  refine (leadsBack_any h0 hm _).mono ?_
  rintro _ _ ⟨rfl, rfl⟩
  by_cases he : a % 2 = 0
  · have e5 : decide (¬ a % 2 = 0) = false := by simp [he]
    rw [e5]
    obtain rfl := HXY.out.1 he
    clear e5 he
    go_wp2
    go_quiet (fail)
    go_wp2
    go_ret
    exact ⟨congrArg (fun z => Ending.returned (.int .i64 z)) hcw, below_drewN HB.out _⟩
  · have e5 : decide (¬ a % 2 = 0) = true := by simp [he]
    rw [e5]
    obtain rfl := HXY.out.2 he
    clear e5 he
    go_wp2
    go_ret
    exact ⟨rfl, HB.out⟩
end Go.Proofs.Ytohcoknnalgjnaa
