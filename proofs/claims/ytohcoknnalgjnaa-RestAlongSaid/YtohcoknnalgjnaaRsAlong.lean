/- Pushes along a way: the program's Along; no condition. -/
import Derived.Test.YtohcoknnalgjnaaRsRoom
import Derived.Test.YtohcoknnalgjnaaRsJoined
import Derived.Test.YtohcoknnalgjnaaRsClone
import Derived.Test.YtohcoknnalgjnaaRsBotP
import Derived.WalkMore
namespace Go.Proofs.Ytohcoknnalgjnaa
open Go.RowKit

set_option maxRecDepth 100000 in
set_option maxHeartbeats 8000000 in
theorem along_any (n : Int) (es : List Ed) (fl arcs : List Int) (b : Int) (w : World) {v x y : Value} (he : Es w v es) (hf : Fs w x fl) (hy : Fs w y arcs) :
    Calls Try.prog 21 #[netV n v, x, y, .int .i64 b] w fun e w' => ∃ r, e = .returned (.tuple #[r, .int .i64 (alongP n es fl arcs b).2]) ∧ Fs w' r (alongP n es fl arcs b).1 ∧ Below w.heap.size w w' ∧
      ((alongP n es fl arcs b).2 = 0 → ∃ g cap, r = .slice (some ⟨g, 0, none⟩) fl.length cap ∧ Rn w' g cap (alongP n es fl arcs b).1 ∧ cap ≤ maxLen ∧ w.heap.size ≤ g) := by
  obtain ⟨va, vc, rfl, -, -⟩ := he.shape
  obtain ⟨xa, xc, rfl, -, -⟩ := hf.shape
  obtain ⟨ya, yc, rfl, -, -⟩ := hy.shape
  obtain ⟨R, hR⟩ : ∃ R, R = alongP n es fl arcs b := ⟨_, rfl⟩
  have hR1 : ¬ AlongOk n es fl arcs b → R = ([], 1) := fun h => by rw [hR]; unfold alongP; rw [if_neg h]
  have hR2 : AlongOk n es fl arcs b → alongL es b arcs fl = none → R = ([], 7) := fun h h2 => by rw [hR]; unfold alongP; rw [if_pos h, h2]
  have hR3 : AlongOk n es fl arcs b → ∀ l, alongL es b arcs fl = some l → R = (l, 0) := fun h l h2 => by rw [hR]; unfold alongP; rw [if_pos h, h2]
  rw [← hR]
  clear hR
  have hyl := hy.len
  obtain ⟨M, hM⟩ : ∃ M, M = arcs.length := ⟨_, rfl⟩
  rw [← hM] at hy hyl ⊢
  have HR := Lib.hid (And.intro hR1 (And.intro hR2 hR3))
  have H0 := Lib.hid (And.intro he (And.intro hf (And.intro hy hM)))
  have hb0 : Below w.heap.size w (w.alloc (.cells #[.int .i64 n, .slice va es.length vc] 24)) := (Below.refl _ _).alloc (Nat.le_refl _) _
  have cN := Cel.new w #[.int .i64 n, .slice va es.length vc] 24
  clear he hf hy hM hR1 hR2 hR3
  go_enter Try.func21, Try.ntmps21
  go_wp2_with fail
  go_step3
  by_cases hbn : b < 0
  · obtain rfl := HR.out.1 (fun h => by have := h.2.1; omega)
    have HB := Lib.hid hb0
    clear hb0 cN
    go_wp2
    first | (rw [Exit.noGoto_ret]; go_ret2) | go_ret2
    first | exact ⟨_, rfl, Rd.nil _ _ _, HB.out, fun h => by cases h⟩ | exact ⟨_, rfl, Rd.nil _ _ _, HB.out⟩
  have hbn' : ¬ b < 0 := hbn
  have hb00 : 0 ≤ b := by omega
  have P := within_any n es fl _ (H0.out.1.below hb0) (H0.out.2.1.below hb0)
  have HB := Lib.hid (And.intro hb0 cN)
  clear hb0 cN hb00 hbn'
  go_wp2_with fail
  generalize w.alloc (.cells #[.int .i64 n, .slice va es.length vc] 24) = wn at *
  refine P.mono ?_
  rintro _ w1 ⟨rfl, bl⟩
  obtain ⟨hb0, cN⟩ := HB.out
  have hb1 := hb0.trans (bl.mono hb0.size)
  have cN1 := cN.below bl cN.lt
  clear P HB hb0 cN bl
  by_cases hw : WithinP n es fl
  case neg =>
    rw [decide_eq_false hw]
    obtain rfl := HR.out.1 (fun h => hw h.1)
    have HB := Lib.hid hb1
    clear hb1 cN1 hw
    go_wp2
    first | (rw [Exit.noGoto_ret]; go_ret2) | go_ret2
    first | exact ⟨_, rfl, Rd.nil _ _ _, HB.out, fun h => by cases h⟩ | exact ⟨_, rfl, Rd.nil _ _ _, HB.out⟩
  rw [decide_eq_true hw]
  have P := joined_any n es arcs w1 (H0.out.1.below hb1) (H0.out.2.2.1.below hb1) hw.1
  obtain ⟨n0, n1⟩ := cN1.net
  have HB := Lib.hid (And.intro hb1 (And.intro cN1 hw))
  clear hb1 cN1 hw
  go_wp2_with fail
  refine P.mono ?_
  rintro _ w2 ⟨rfl, bl⟩
  obtain ⟨hb1, cN1, hw⟩ := HB.out
  have hb2 := hb1.trans (bl.mono hb1.size)
  have cN2 := cN1.below bl cN1.lt
  clear P HB hb1 cN1 bl n0 n1
  by_cases hj : WayP es arcs
  case neg =>
    rw [decide_eq_false hj]
    obtain rfl := HR.out.1 (fun h => hj h.2.2)
    have HB := Lib.hid hb2
    clear hb2 cN2 hw hj
    go_wp2
    first | (rw [Exit.noGoto_ret]; go_ret2) | go_ret2
    first | exact ⟨_, rfl, Rd.nil _ _ _, HB.out, fun h => by cases h⟩ | exact ⟨_, rfl, Rd.nil _ _ _, HB.out⟩
  rw [decide_eq_true hj]
  have hok : AlongOk n es fl arcs b := ⟨hw, by omega, hj⟩
  have hR2 := HR.out.2.1 hok
  have hR3 := HR.out.2.2 hok
  have hne : fl ≠ [] := by
    rintro rfl
    have h1 : ∃ a, arcs[0]? = some a := ⟨_, List.getElem?_eq_getElem (List.length_pos_iff.2 hj.1)⟩
    obtain ⟨a, h1⟩ := h1
    have := (hj.has h1).lt
    have := hw.2.1
    simp only [List.length_nil] at this
    omega
  have hfl : fl.length ≤ 200 := by have := hw.1.2.2.1; have := hw.2.1; omega
  have P := clone_any fl w2 (H0.out.2.1.below hb2) hne (by omega)
  have HB := Lib.hid (And.intro hb2 (And.intro cN2 (And.intro hok (And.intro hR2 (And.intro hR3 hfl)))))
  clear hb2 cN2 hw hj hok hR2 hR3 hne hfl HR
  go_wp2_with fail
  refine P.mono ?_
  rintro _ w3 ⟨g, cap, rfl, hrn, hcm, hgw, bl⟩
  obtain ⟨hb2, cN2, hok, hR2, hR3, hfl⟩ := HB.out
  have hb3 := hb2.trans (bl.mono hb2.size)
  have cN3 := cN2.below bl cN2.lt
  have hcg : w.heap.size < g := by have := cN2.lt; omega
  obtain ⟨N, hN⟩ : ∃ N, N = fl.length := ⟨_, rfl⟩
  rw [← hN]
  have HC := Lib.hid (And.intro hb3 (And.intro cN3 hrn))
  have HG := Lib.hid (And.intro hok (And.intro hR2 (And.intro hR3 (And.intro hcm (And.intro hcg (And.intro hfl hN))))))
  clear P HB hb2 cN2 hok hR2 hR3 hfl hrn hcm hgw bl hb3 cN3 hcg hN
  go_wp2
  go_step3
  go_wp2
  go_loopw [33, 10, 11] (fun j s q wr => ∃ k : Nat, j = .int .i64 (k : Int) ∧ k ≤ M ∧ s = .slice (some ⟨g, 0, none⟩) N cap ∧ q = .int .i64 0 ∧ ∃ l, alongL es b (arcs.take k) fl = some l ∧ Below w.heap.size w wr ∧ Cel wr w.heap.size [.int .i64 n, .slice va es.length vc] 24 ∧ Rn wr g cap l) (fun j _ _ _ => M - (intOf j).toNat)
  case atStart => exact ⟨0, rfl, Nat.zero_le _, rfl, rfl, fl, rfl, HC.out⟩
  case round =>
    obtain ⟨k, rfl, hk, rfl, rfl, l, hal, hb, cN, hrn⟩ := hrel
    clear HC
    have hM := H0.out.2.2.2
    rcases Nat.lt_or_ge k M with hlt | hge
    · obtain ⟨a, hay⟩ : ∃ a, arcs[k]? = some a := ⟨_, List.getElem?_eq_getElem (by omega)⟩
      have hh := WayP.has HG.out.1.2.2 hay
      have hwl := alongL_within HG.out.1.1 (fun c hc => WayP.all HG.out.1.2.2 c (List.mem_of_mem_take hc)) HG.out.1.2.1 hal
      have hll : l.length = N := by rw [alongL_length hal, HG.out.2.2.2.2.2.2]
      obtain ⟨g3, o3, cap3, e0, hg3, f0⟩ := fs_at (H0.out.2.2.1.below hb) hay
      rw [← hM] at e0
      simp only [Value.slice.injEq] at e0
      obtain ⟨rfl, -, rfl⟩ := e0
      have hki : (k : Int) < (M : Int) := by omega
      have hk1 : (k : Int) ≤ 9223372036854775806 := by omega
      have hk0 : (0 : Int) ≤ (k : Int) := by omega
      have hm : a ≤ 9223372036854775807 := by have := hwl.1.2.2.1; have := hh.2; omega
      have h0 : 0 ≤ a := hh.1
      obtain ⟨m, hm2⟩ : ∃ m : Nat, (a / 2).toNat = m := ⟨_, rfl⟩
      have hm3 : a / 2 = (m : Int) := by omega
      have PE := fun W => edgeOf_any a W
      rw [hm3] at PE
      have hrf := hrn.fs HG.out.2.2.2.1
      rw [hll] at hrf
      have PR := aroom_any n es l a wr (H0.out.1.below hb) hrf hh hwl
      have hts := alongL_take (es := es) (b := b) (fl := fl) hay
      rw [hal] at hts
      simp only [Option.bind_some] at hts
      obtain ⟨n0, n1⟩ := cN.net
      have hmN : m < N := by have := hh.lt; have := hwl.2.1; omega
      have hF := hh.flw hwl.2.1
      rw [hm2] at hF
      have hfit := hh.fits hwl
      have hroom : roomL es l a = if a % 2 = 0 then (edI es a).cap - flI l a else flI l a := rfl
      have hpush : pushL l a b = l.set m (if a % 2 = 0 then flI l a + b else flI l a - b) := by unfold pushL; rw [hm2]
      have HQ := Lib.hid (And.intro hb (And.intro cN (And.intro hrn (And.intro hlt (And.intro hts (And.intro hmN (And.intro hF (And.intro hfit (And.intro hroom (And.intro hpush (And.intro hll (And.intro hay hg3))))))))))))
      clear hb cN hrn hlt hts hmN hF hfit hroom hpush hll hay hg3 hk hal hh hwl hm3 hm2 hrf hM
      go_wp2_with fail
      refine (PE _).mono ?_
      rintro _ _ ⟨rfl, rfl⟩
      go_wp2_with fail
      refine PR.mono ?_
      rintro _ w5 ⟨rfl, bl⟩
      obtain ⟨hb, cN, hrn, hlt, hts, hmN, hF, hfit, hroom, hpush, hll, hay, hg3⟩ := HQ.out
      have hb5 := hb.trans (bl.mono hb.size)
      have cN5 := cN.below bl cN.lt
      have hrn5 := hrn.below bl
      clear PR HQ hb cN hrn bl n0 n1 f0 PE hg3
      by_cases hroomy : b ≤ roomL es l a
      case neg =>
        have hgt : roomL es l a < b := by omega
        rw [if_neg hroomy] at hts
        obtain rfl := HG.out.2.1 (alongL_none hts)
        have HB := Lib.hid hb5
        clear hts hroom hpush hroomy hb5 cN5 hrn5 hlt hmN hF hfit hll hay
        generalize roomL es l a = RO at *
        go_wp2
        first | (rw [Exit.noGoto_ret]; go_ret2) | go_ret2
        first | exact ⟨_, rfl, Rd.nil _ _ _, HB.out, fun h => by cases h⟩ | exact ⟨_, rfl, Rd.nil _ _ _, HB.out⟩
      rw [if_pos hroomy] at hts
      have hngt : ¬ roomL es l a < b := by omega
      by_cases he : a % 2 = 0
      · have e5 : decide (¬ a % 2 = 0) = false := by simp [he]
        rw [if_pos he] at hpush hroom
        have hw6 : wrap64 (flI l a + b) = flI l a + b := by unfold wrap64; omega
        have hmi : (m : Int) < (N : Int) := by omega
        have hm0 : (0 : Int) ≤ (m : Int) := by omega
        have c6 := hrn5.at hF
        have fr := hrn5.frozen m
        have hrs := hrn5.set (i := m) (by omega) (flI l a + b)
        rw [← hpush] at hrs
        have hb6 := hb5.setCell (p := ⟨g, m, none⟩) (by have := HG.out.2.2.2.2.1; simp only; omega) (.int .i64 (flI l a + b))
        have cN6 := cN5.kept (w' := w5.setCell ⟨g, m, none⟩ (.int .i64 (flI l a + b))) (Below.heap_setCell _ _ _ _ (by have := HG.out.2.2.2.2.1; simp only; omega))
        have HB := Lib.hid (And.intro hts (And.intro hb6 (And.intro cN6 (And.intro hrs hlt))))
        have PL := leadsBack_any h0 hm w5
        rw [e5] at PL
        clear hts hb6 cN6 hrs hlt hb5 cN5 hrn5 hpush hroom hroomy hF hfit hll hay hmN e5 he
        generalize roomL es l a = RO at *
        generalize flI l a = F at *
        go_wp2_with fail
        refine PL.mono ?_
        rintro _ _ ⟨rfl, rfl⟩
        go_wp2
        go_roundw
        case rel => exact ⟨k + 1, by go_num, HB.out.2.2.2.2, rfl, rfl, _, HB.out.1, by (try rw [hw6]); exact ⟨HB.out.2.1, HB.out.2.2.1, HB.out.2.2.2.1⟩⟩
        case measure =>
          have := HB.out.2.2.2.2
          simp only [intOf]
          omega
      · have e5 : decide (¬ a % 2 = 0) = true := by simp [he]
        rw [if_neg he] at hpush hroom
        have hw6 : wrap64 (flI l a - b) = flI l a - b := by unfold wrap64; omega
        have hmi : (m : Int) < (N : Int) := by omega
        have hm0 : (0 : Int) ≤ (m : Int) := by omega
        have c6 := hrn5.at hF
        have fr := hrn5.frozen m
        have hrs := hrn5.set (i := m) (by omega) (flI l a - b)
        rw [← hpush] at hrs
        have hb6 := hb5.setCell (p := ⟨g, m, none⟩) (by have := HG.out.2.2.2.2.1; simp only; omega) (.int .i64 (flI l a - b))
        have cN6 := cN5.kept (w' := w5.setCell ⟨g, m, none⟩ (.int .i64 (flI l a - b))) (Below.heap_setCell _ _ _ _ (by have := HG.out.2.2.2.2.1; simp only; omega))
        have HB := Lib.hid (And.intro hts (And.intro hb6 (And.intro cN6 (And.intro hrs hlt))))
        have PL := leadsBack_any h0 hm w5
        rw [e5] at PL
        clear hts hb6 cN6 hrs hlt hb5 cN5 hrn5 hpush hroom hroomy hF hfit hll hay hmN e5 he
        generalize roomL es l a = RO at *
        generalize flI l a = F at *
        go_wp2_with fail
        refine PL.mono ?_
        rintro _ _ ⟨rfl, rfl⟩
        go_wp2
        go_roundw
        case rel => exact ⟨k + 1, by go_num, HB.out.2.2.2.2, rfl, rfl, _, HB.out.1, by (try rw [hw6]); exact ⟨HB.out.2.1, HB.out.2.2.1, HB.out.2.2.2.1⟩⟩
        case measure =>
          have := HB.out.2.2.2.2
          simp only [intOf]
          omega
    · obtain rfl : k = M := by omega
      have hki : ¬ (k : Int) < (k : Int) := by omega
      have hall : alongL es b arcs fl = some l := by rw [← hal, hM, List.take_length]
      obtain rfl := HG.out.2.2.1 l hall
      have hll : l.length = N := by rw [alongL_length hall, HG.out.2.2.2.2.2.2]
      have hrf := hrn.fs HG.out.2.2.2.1
      rw [hll] at hrf
      have HB := Lib.hid (And.intro hb (And.intro hrn hrf))
      clear hge hk hal hall hb cN hrn hM hll hrf
      go_wp2
      first | (rw [Exit.noGoto_ret]; go_ret2) | go_ret2
      exact ⟨_, rfl, HB.out.2.2, HB.out.1, ⟨g, cap, by rw [HG.out.2.2.2.2.2.2]; rfl, HB.out.2.1, HG.out.2.2.2.1, Nat.le_of_lt HG.out.2.2.2.2.1⟩⟩
end Go.Proofs.Ytohcoknnalgjnaa
