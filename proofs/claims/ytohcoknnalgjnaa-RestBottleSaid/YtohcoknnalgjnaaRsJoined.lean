/- Whether arcs are a way: the program's joined; condition: a net that is right. -/
import Derived.Test.YtohcoknnalgjnaaRsCalls
import Derived.Test.YtohcoknnalgjnaaNtKeep
namespace Go.Proofs.Ytohcoknnalgjnaa
open Go.RowKit

set_option maxRecDepth 100000 in
set_option maxHeartbeats 8000000 in
theorem joined_any (n : Int) (es : List Ed) (arcs : List Int) (w : World) {v y : Value} (he : Es w v es) (hy : Fs w y arcs) (hr : RightP n es) :
    Calls Try.prog 37 #[netV n v, y] w fun e w' => e = .returned (.bool (decide (WayP es arcs))) ∧ Below w.heap.size w w' := by
  obtain ⟨va, vc, rfl, -, -⟩ := he.shape
  obtain ⟨ya, yc, rfl, -, -⟩ := hy.shape
  have hK := NQ.box n he (fls := [(.slice ya arcs.length yc, arcs)]) (fun p hp => by rw [List.mem_singleton.1 hp]; exact hy)
  have hyl := hy.len
  clear he hy
  obtain ⟨b, hbv⟩ : ∃ b, b = decide (WayP es arcs) := ⟨_, rfl⟩
  have hT : WayP es arcs → b = true := fun h => by rw [hbv]; exact decide_eq_true h
  have hF : ¬ WayP es arcs → b = false := fun h => by rw [hbv]; exact decide_eq_false h
  rw [← hbv]
  clear hbv
  obtain ⟨M, hM⟩ : ∃ M, M = arcs.length := ⟨_, rfl⟩
  have HR := Lib.hid hr
  have HB := Lib.hid (And.intro hT (And.intro hF hM))
  rw [← hM] at hK hyl ⊢
  clear hT hF hM hr
  go_enter Try.func37, Try.ntmps37
  go_wp2
  have HK := Lib.hid hK
  generalize w.alloc (.cells #[.int .i64 n, .slice va es.length vc] 24) = w1 at *
  clear hK
  go_loopw [13, 5] (fun j at' wr => ∃ k : Nat, j = .int .i64 (k : Int) ∧ k ≤ M ∧ wayTo es arcs k = true ∧ at' = .int .i64 (if k = 0 then 0 else toA es (arcs.getD (k - 1) 0)) ∧ NQ w w.heap.size n (.slice va es.length vc) es [(.slice ya M yc, arcs)] wr) (fun j _ _ => M - (intOf j).toNat)
  case atStart => exact ⟨0, rfl, Nat.zero_le _, rfl, rfl, HK.out⟩
  case round =>
    obtain ⟨k, rfl, hk, hway, hat, hq⟩ := hrel
    obtain ⟨U, hU⟩ : ∃ U, U = if k = 0 then 0 else toA es (arcs.getD (k - 1) 0) := ⟨_, rfl⟩
    rw [← hU] at hat
    subst hat
    have HU := Lib.hid hU
    clear HK hU
    rcases Nat.lt_or_ge k M with hlt | hge
    · obtain ⟨a, hy⟩ : ∃ a, arcs[k]? = some a := ⟨_, List.getElem?_eq_getElem (by have := HB.out.2.2; omega)⟩
      obtain ⟨g, o, cap, e0, hg, f0⟩ := fs_at (hq.fl (.slice ya M yc, arcs) (by simp)) hy
      simp only [Value.slice.injEq] at e0
      obtain ⟨rfl, -, rfl⟩ := e0
      have hD : arcs.getD k 0 = a := by rw [List.getD_eq_getElem?_getD, hy]; rfl
      have hki : (k : Int) < (M : Int) := by omega
      have hk1 : (k : Int) ≤ 9223372036854775806 := by omega
      have hk0 : (0 : Int) ≤ (k : Int) := by omega
      have P := has_any n es a wr hq.es
      have hmore := wayTo_more es arcs k
      rw [hway, Bool.true_and] at hmore
      obtain ⟨n0, n1⟩ := hq.net.net
      have HQ := Lib.hid (And.intro hq (And.intro hlt hmore))
      clear hq hlt hk hway hy hmore hg
      go_wp2_with fail
      refine P.mono ?_
      rintro _ w2 ⟨rfl, bl⟩
      obtain ⟨hq, hlt, hmore⟩ := HQ.out
      have hq2 := hq.go bl
      clear P HQ hq bl n0 n1 f0
      by_cases hh : HasP es a
      case neg =>
        rw [decide_eq_false hh]
        obtain rfl := HB.out.2.1 (fun h => hh (by have := h.at (i := k) (by have := HB.out.2.2; omega); unfold wayT at this; rw [hD] at this; simp only [Bool.and_eq_true, decide_eq_true_eq] at this; exact this.1))
        have HQ := Lib.hid hq2
        clear hh hq2 hmore hlt
        go_wp2
        go_ret
        exact ⟨rfl, HQ.out.under⟩
      rw [decide_eq_true hh]
      have P := aends_any n es a w2 hq2.es hh HR.out
      obtain ⟨n0, n1⟩ := hq2.net.net
      have HQ := Lib.hid (And.intro hq2 (And.intro hlt (And.intro hmore hh)))
      clear hq2 hlt hmore hh
      go_wp2_with fail
      refine P.mono ?_
      rintro _ w3 ⟨rfl, bl⟩
      obtain ⟨hq2, hlt, hmore, hh⟩ := HQ.out
      have hq3 := hq2.go bl
      clear P HQ hq2 bl n0 n1
      unfold wayT at hmore
      rw [hD, decide_eq_true hh, Bool.true_and] at hmore
      have hDk : toA es (arcs.getD k 0) = toA es a := by rw [hD]
      generalize frA es a = X at *
      generalize toA es a = Y at *
      clear hD hh
      by_cases hk2 : k = 0
      · subst hk2
        have HQ := Lib.hid (And.intro hq3 (And.intro hlt (And.intro hDk hmore)))
        clear hq3 hlt hDk hmore
        go_wp2
        go_roundw
        case rel =>
          obtain ⟨hq3, hlt, hDk, hmore⟩ := HQ.out
          exact ⟨1, by go_num, hlt, by rw [hmore]; simp, by rw [if_neg (by omega)]; rw [show 1 - 1 = 0 from rfl, hDk], hq3⟩
        case measure =>
          have := HQ.out.2.1
          simp only [intOf]
          omega
      · have hk3 : (0 : Int) < (k : Int) := by omega
        have hbeq : (k == 0) = false := by simpa using hk2
        rw [hbeq, Bool.false_or] at hmore
        have hU := HU.out
        rw [if_neg hk2] at hU
        rw [← hU] at hmore
        clear hU
        by_cases hz : X = U
        · subst hz
          have HQ := Lib.hid (And.intro hq3 (And.intro hlt (And.intro hDk hmore)))
          clear hq3 hlt hDk hmore hk2 hbeq
          have hq : (X != X) = false := by simp
          go_wp2
          go_roundw
          case rel =>
            obtain ⟨hq3, hlt, hDk, hmore⟩ := HQ.out
            exact ⟨k + 1, by go_num, hlt, by rw [hmore]; simp, by rw [if_neg (by omega), Nat.add_sub_cancel, hDk], hq3⟩
          case measure =>
            have := HQ.out.2.1
            simp only [intOf]
            omega
        · obtain rfl := HB.out.2.1 (fun h => by
            have := wayTo_le h.2 (j := k + 1) (by have := HB.out.2.2; omega)
            rw [hmore] at this
            exact hz (by simpa using this))
          have HQ := Lib.hid hq3
          have hq : (X != U) = true := by simpa using hz
          clear hq3 hlt hDk hmore hk2 hbeq hz
          go_wp2
          go_ret
          exact ⟨rfl, HQ.out.under⟩
    · obtain rfl : k = M := by omega
      have hki : ¬ (k : Int) < (k : Int) := by omega
      have HQ := Lib.hid hq
      by_cases h0 : k = 0
      · subst h0
        obtain rfl := HB.out.2.1 (fun h => h.1 (List.eq_nil_of_length_eq_zero HB.out.2.2.symm))
        clear hge hk hway hq
        go_wp2
        go_ret
        exact ⟨rfl, HQ.out.under⟩
      · obtain rfl := HB.out.1 ⟨fun h => h0 (by rw [HB.out.2.2, h]; rfl), by rw [← HB.out.2.2]; exact hway⟩
        have H0 := Lib.hid h0
        clear hge hk hway hq h0
        go_wp2
        go_ret
        exact ⟨congrArg (fun z => Ending.returned (.bool z)) (decide_eq_true (by have := H0.out; omega)), HQ.out.under⟩
end Go.Proofs.Ytohcoknnalgjnaa
