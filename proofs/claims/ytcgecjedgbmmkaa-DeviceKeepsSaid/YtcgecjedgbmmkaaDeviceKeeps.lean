/- The walk of DeviceKeeps: it returns true and writes nothing that was there; no condition. -/
import Derived.Test.YtcgecjedgbmmkaaKeeps0
namespace Go.Proofs.Ytcgecjedgbmmkaa
open Go.RowKit Go.Maps

/-- A cell of the bytes that came in, later. -/
theorem bs_later {w W : World} {g o n c : Nat} {l : List UInt8} (h : Bs w (.slice (some ⟨g, o, none⟩) n c) l) (hb : Below w.heap.size w W) {i : Nat} {x : UInt8} (hx : l[i]? = some x) : W.cell? ⟨g, o + i, none⟩ = some (.int .u8 (x.toNat : Int)) := by
  have hi := (List.getElem?_eq_some_iff.1 hx).1
  obtain ⟨b, o', cap, e, _, hlt, hc⟩ := h.open (by omega)
  simp only [Value.slice.injEq, Option.some.injEq, Addr.mk.injEq] at e
  obtain ⟨⟨rfl, rfl, _⟩, _, _⟩ := e
  exact (hb.cell (p := ⟨g, o + i, none⟩) hlt).trans (hc i x hx)

theorem pv_later {w W : World} {g o n c : Nat} {l : List (UInt8 × UInt8)} (h : Pv w (.slice (some ⟨g, o, none⟩) n c) l) (hb : Below w.heap.size w W) {i : Nat} {p : UInt8 × UInt8} (hx : l[i]? = some p) :
    W.cell? ⟨g, o + i * 2, none⟩ = some (.int .u8 (p.1.toNat : Int)) ∧ W.cell? ⟨g, o + (i * 2 + 1), none⟩ = some (.int .u8 (p.2.toNat : Int)) := by
  obtain ⟨b, o', cap, e, hlt, h1, h2⟩ := h.open hx
  simp only [Value.slice.injEq, Option.some.injEq, Addr.mk.injEq] at e
  obtain ⟨⟨rfl, rfl, _⟩, _, _⟩ := e
  exact ⟨(hb.cell (p := ⟨g, o + i * 2, none⟩) hlt).trans h1, (hb.cell (p := ⟨g, o + (i * 2 + 1), none⟩) hlt).trans h2⟩

/-- What makes the check of a block hold, behind so many of the writes. -/
def KP (sure : List UInt8) (ws : List (UInt8 × UInt8)) (k n : Nat) (x : Bk) (c : UInt8) : Prop := x.sure = fullOf c ∨ ∃ (i : Nat) (p : UInt8 × UInt8), i < n ∧ ws[i]? = some p ∧ p.1.toNat % sure.length = k ∧ x.sure = fullOf p.2

theorem kp_step {sure : List UInt8} {ws : List (UInt8 × UInt8)} {k n : Nat} {x : Bk} {c : UInt8} {p : UInt8 × UInt8} (h : KP sure ws k (n + 1) x c) (hp : ws[n]? = some p) (hno : ¬ KP sure ws k n x c) (_ : p.1.toNat % sure.length = k) : x.sure = fullOf p.2 := by
  rcases h with h | ⟨i, p', hi, hp', h1, h2⟩
  · exact absurd (.inl h) hno
  · by_cases hin : i < n
    · exact absurd (.inr ⟨i, p', hin, hp', h1, h2⟩) hno
    · obtain rfl : i = n := by omega
      rw [hp] at hp'
      cases hp'
      exact h2
theorem kp_step_no {sure : List UInt8} {ws : List (UInt8 × UInt8)} {k n : Nat} {x : Bk} {c : UInt8} {p : UInt8 × UInt8} (h : KP sure ws k (n + 1) x c) (hp : ws[n]? = some p) (he : ¬ p.1.toNat % sure.length = k) : KP sure ws k n x c := by
  rcases h with h | ⟨i, p', hi, hp', h1, h2⟩
  · exact .inl h
  · by_cases hin : i < n
    · exact .inr ⟨i, p', hin, hp', h1, h2⟩
    · obtain rfl : i = n := by omega
      rw [hp] at hp'
      cases hp'
      exact absurd h1 he
theorem kp_end {sure : List UInt8} {ws : List (UInt8 × UInt8)} {k way : Nat} {D : Dv} {x : Bk} {c : UInt8} (hd : KD3 sure ws way D) (hx : D.bk[k]? = some x) (hc : sure[k]? = some c) : KP sure ws k ws.length x c := by
  rcases (hd.2.2 k x hx).2 c hc with h | ⟨_, i, p, hp, h1, h2⟩
  · exact .inl h
  · exact .inr ⟨i, p, (List.getElem?_eq_some_iff.1 hp).1, hp, h1, h2⟩
theorem kd3_one {sure : List UInt8} {ws : List (UInt8 × UInt8)} {k : Nat} {D : Dv} {x : Bk} {c : UInt8} (hd : KD3 sure ws 1 D) (hx : D.bk[k]? = some x) (hc : sure[k]? = some c) : x.sure = fullOf c := by
  rcases (hd.2.2 k x hx).2 c hc with h | ⟨h, _⟩
  · exact h
  · cases h

set_option maxRecDepth 100000 in
set_option maxHeartbeats 8000000 in
theorem deviceKeeps_any {v0 v1 v2 : Value} {sure : List UInt8} {ws : List (UInt8 × UInt8)} {ps : List Int} (w : World) (h0 : Bs w v0 sure) (h1 : Pv w v1 ws) (h2 : Iv w v2 ps) :
    Calls Try.prog 4 #[v0, v1, v2] w (Yes w) := by
  obtain ⟨a0, c0, rfl, h0⟩ := h0.shape
  obtain ⟨a1, c1, rfl⟩ := h1.shape
  obtain ⟨a2, c2, rfl⟩ := h2.shape
  by_cases hsm : 0 < sure.length ∧ sure.length ≤ 30 ∧ ws.length ≤ 100 ∧ ps.length ≤ 100
  · obtain ⟨hn1, hn2, hw1, hp1⟩ := hsm
    have t1 : (((sure.length : Int)) == 0) = false := by rw [beq_eq_false_iff_ne]; omega
    have t2 : decide ((30 : Int) < (sure.length : Int)) = false := by simp; omega
    have t3 : decide ((100 : Int) < (ws.length : Int)) = false := by simp; omega
    have t4 : decide ((100 : Int) < (ps.length : Int)) = false := by simp; omega
    have hcs := Lib.hid (fun (W : World) (hb : Below w.heap.size w W) (i : Nat) (x : UInt8) (hx : sure[i]? = some x) => show ∃ g o, a0 = some ⟨g, o, none⟩ ∧ W.cell? ⟨g, o + i, none⟩ = some (.int .u8 (x.toNat : Int)) from by
      have hi := (List.getElem?_eq_some_iff.1 hx).1
      obtain ⟨g, o, cap, e, _, hlt, hc⟩ := h0.open (by omega)
      simp only [Value.slice.injEq] at e
      exact ⟨g, o, e.1, (hb.cell (p := ⟨g, o + i, none⟩) hlt).trans (hc i x hx)⟩)
    obtain ⟨gs, os, rfl⟩ : ∃ g o, a0 = some ⟨g, o, none⟩ := by
      obtain ⟨g, o, e, _⟩ := hcs.out w (Below.refl _ _) 0 _ (List.getElem?_eq_getElem hn1)
      exact ⟨g, o, e⟩
    clear hcs
    go_enter Try.func4, Try.ntmps4
    go_wp2_with fail
    go_loopw [7] (fun i wr => ∃ r : Nat, r ≤ 2 ∧ i = .int .i64 r ∧ Below w.heap.size w wr) (fun i _ => 2 - (intOf i).toNat)
    case atStart => exact ⟨0, by omega, rfl, Below.refl _ _⟩
    case round =>
      obtain ⟨r, hr, rfl, hbel⟩ := hrel
      by_cases hlt : r < 2
      · have HB := Lib.hid hbel
        have hBz := hbel.size
        clear hbel
        obtain ⟨wo, rfl⟩ : ∃ wo : World, wo = wr := ⟨_, rfl⟩
        go_wp2_with fail
        refine (k_new (sure := sure) _ hn1 hn2).mono ?_
        rintro e w1 ⟨b, rfl, hi1⟩
        go_wp2_with fail
        go_loopw [10] (fun i wr => ∃ q : Nat, q ≤ sure.length ∧ i = .int .i64 q ∧ KI1 wo b sure q wr) (fun i _ => sure.length - (intOf i).toNat)
        case atStart => exact ⟨0, Nat.zero_le _, rfl, hi1⟩
        case round =>
          clear hi1
          obtain ⟨q, hq, rfl, hi1⟩ := hrel
          by_cases hql : q < sure.length
          · obtain ⟨x, hx⟩ : ∃ x, sure[q]? = some x := ⟨_, List.getElem?_eq_getElem hql⟩
            have hcell := bs_later h0 (HB.out.trans (hi1.under.mono hBz)) hx
            have HX := Lib.hid hx
            clear hx
            go_wp2_with fail
            refine (k_full1 hi1 x).mono ?_
            rintro e w2 ⟨g2, rfl, hi2⟩
            go_wp2_with fail
            refine (k_write1 hi2 HX.out).mono ?_
            rintro e w3 ⟨rfl, hi3⟩
            clear hi1 hi2 hcell
            go_wp2
            go_roundw
            case rel => exact ⟨q + 1, by omega, by go_num, hi3⟩
            case measure => simp [intOf]; omega
          · obtain rfl : q = sure.length := by omega
            go_wp2_with fail
            refine (k_flush (ws := ws) hi1).mono ?_
            rintro e w2 ⟨rfl, hi2⟩
            clear hi1
            go_wp2_with fail
            go_loopw [11] (fun i wr => ∃ q : Nat, q ≤ ws.length ∧ i = .int .i64 q ∧ KI2 wo b sure ws q true wr) (fun i _ => ws.length - (intOf i).toNat)
            case atStart => exact ⟨0, Nat.zero_le _, rfl, hi2⟩
            case round =>
              clear hi2
              obtain ⟨q, hq, rfl, hi2⟩ := hrel
              by_cases hql : q < ws.length
              · obtain ⟨p, hp⟩ : ∃ p, ws[q]? = some p := ⟨_, List.getElem?_eq_getElem hql⟩
                obtain ⟨gw, ow, cw, e, _, _⟩ := h1.open hp
                simp only [Value.slice.injEq] at e
                obtain ⟨rfl, -, rfl⟩ := e
                have hcl := Lib.hid (fun (W : World) (hW : Below wo.heap.size wo W) => pv_later h1 (HB.out.trans (hW.mono hBz)) hp)
                obtain ⟨hq1, hq2⟩ := hcl.out _ hi2.under
                have HP := Lib.hid hp
                have hpl := p.1.toNat_lt
                have hmd := Lib.hid (show (p.1.toNat : Int) % (sure.length : Int) = ((p.1.toNat % sure.length : Nat) : Int) from by omega)
                have hne := Lib.hid (show sure ≠ [] from fun e => by rw [e] at hn1; simp at hn1)
                clear hp
                go_wp2_with fail
                refine region_till 99 (fun W => W.cell? ⟨gw, ow + q * 2, none⟩ = some (.int .u8 (p.1.toNat : Int)) ∧ W.cell? ⟨gw, ow + (q * 2 + 1), none⟩ = some (.int .u8 (p.2.toNat : Int))) (by kernel_rfl) ⟨hq1, hq2⟩ (fun hS => ?_)
                refine take_till (i := 0) (some 74) (ptr b) rfl rfl (by kernel_rfl) (by kernel_rfl) (by kernel_rfl) (by kernel_rfl) (by decide) (fun _ _ _ h => h) (by rfl) (fun W hW => ?_) hS ?_
                · obtain ⟨hw1, hw2⟩ := hW
                  go_simp
                simp only [Act.put, List.setIfInBounds_toArray, List.set_cons_zero, List.set_cons_succ]
                refine take_till (i := 1) (some 75) (.slice (some ⟨gw, ow, none⟩) ws.length c1) rfl rfl (by kernel_rfl) (by kernel_rfl) (by kernel_rfl) (by kernel_rfl) (by decide) (fun _ _ _ h => h) (by rfl) (fun W hW => ?_) hS ?_
                · obtain ⟨hw1, hw2⟩ := hW
                  go_simp
                simp only [Act.put, List.setIfInBounds_toArray, List.set_cons_zero, List.set_cons_succ]
                refine take_till (i := 2) (some 76) (.int .i64 (q : Int)) rfl rfl (by kernel_rfl) (by kernel_rfl) (by kernel_rfl) (by kernel_rfl) (by decide) (fun _ _ _ h => h) (by rfl) (fun W hW => ?_) hS ?_
                · obtain ⟨hw1, hw2⟩ := hW
                  go_simp
                simp only [Act.put, List.setIfInBounds_toArray, List.set_cons_zero, List.set_cons_succ]
                refine take_till (i := 3) (some 77) (.pointer (some ⟨gw, ow + q * 2, none⟩)) rfl rfl (by kernel_rfl) (by kernel_rfl) (by kernel_rfl) (by kernel_rfl) (by decide) (fun _ _ _ h => h) (by rfl) (fun W hW => ?_) hS ?_
                · obtain ⟨hw1, hw2⟩ := hW
                  go_simp
                simp only [Act.put, List.setIfInBounds_toArray, List.set_cons_zero, List.set_cons_succ]
                refine take_till (i := 4) (some 78) (.pointer (some ⟨gw, ow + q * 2, none⟩)) rfl rfl (by kernel_rfl) (by kernel_rfl) (by kernel_rfl) (by kernel_rfl) (by decide) (fun _ _ _ h => h) (by rfl) (fun W hW => ?_) hS ?_
                · obtain ⟨hw1, hw2⟩ := hW
                  go_simp
                simp only [Act.put, List.setIfInBounds_toArray, List.set_cons_zero, List.set_cons_succ]
                refine take_till (i := 5) (some 79) (.int .u8 (p.1.toNat : Int)) rfl rfl (by kernel_rfl) (by kernel_rfl) (by kernel_rfl) (by kernel_rfl) (by decide) (fun _ _ _ h => h) (by rfl) (fun W hW => ?_) hS ?_
                · obtain ⟨hw1, hw2⟩ := hW
                  go_simp
                simp only [Act.put, List.setIfInBounds_toArray, List.set_cons_zero, List.set_cons_succ]
                refine take_till (i := 6) (some 80) (.int .i64 (p.1.toNat : Int)) rfl rfl (by kernel_rfl) (by kernel_rfl) (by kernel_rfl) (by kernel_rfl) (by decide) (fun _ _ _ h => h) (by rfl) (fun W hW => ?_) hS ?_
                · obtain ⟨hw1, hw2⟩ := hW
                  go_simp
                  exact IntWalk.i64_in _ (by omega)
                simp only [Act.put, List.setIfInBounds_toArray, List.set_cons_zero, List.set_cons_succ]
                refine take_till (i := 7) (some 81) (.slice (some ⟨gs, os, none⟩) sure.length c0) rfl rfl (by kernel_rfl) (by kernel_rfl) (by kernel_rfl) (by kernel_rfl) (by decide) (fun _ _ _ h => h) (by rfl) (fun W hW => ?_) hS ?_
                · obtain ⟨hw1, hw2⟩ := hW
                  go_simp
                simp only [Act.put, List.setIfInBounds_toArray, List.set_cons_zero, List.set_cons_succ]
                refine take_till (i := 8) (some 82) (.int .i64 (sure.length : Int)) rfl rfl (by kernel_rfl) (by kernel_rfl) (by kernel_rfl) (by kernel_rfl) (by decide) (fun _ _ _ h => h) (by rfl) (fun W hW => ?_) hS ?_
                · obtain ⟨hw1, hw2⟩ := hW
                  go_simp
                simp only [Act.put, List.setIfInBounds_toArray, List.set_cons_zero, List.set_cons_succ]
                refine take_till (i := 9) (some 83) (.int .i64 ((p.1.toNat % sure.length : Nat) : Int)) rfl rfl (by kernel_rfl) (by kernel_rfl) (by kernel_rfl) (by kernel_rfl) (by decide) (fun _ _ _ h => h) (by rfl) (fun W hW => ?_) hS ?_
                · obtain ⟨hw1, hw2⟩ := hW
                  go_simp
                  rw [if_neg hne.out, Int.tmod_eq_emod_of_nonneg (by omega)]
                simp only [Act.put, List.setIfInBounds_toArray, List.set_cons_zero, List.set_cons_succ]
                refine take_till (i := 10) (some 84) (.slice (some ⟨gw, ow, none⟩) ws.length c1) rfl rfl (by kernel_rfl) (by kernel_rfl) (by kernel_rfl) (by kernel_rfl) (by decide) (fun _ _ _ h => h) (by rfl) (fun W hW => ?_) hS ?_
                · obtain ⟨hw1, hw2⟩ := hW
                  go_simp
                simp only [Act.put, List.setIfInBounds_toArray, List.set_cons_zero, List.set_cons_succ]
                refine take_till (i := 11) (some 85) (.int .i64 (q : Int)) rfl rfl (by kernel_rfl) (by kernel_rfl) (by kernel_rfl) (by kernel_rfl) (by decide) (fun _ _ _ h => h) (by rfl) (fun W hW => ?_) hS ?_
                · obtain ⟨hw1, hw2⟩ := hW
                  go_simp
                simp only [Act.put, List.setIfInBounds_toArray, List.set_cons_zero, List.set_cons_succ]
                refine take_till (i := 12) (some 86) (.pointer (some ⟨gw, ow + q * 2, none⟩)) rfl rfl (by kernel_rfl) (by kernel_rfl) (by kernel_rfl) (by kernel_rfl) (by decide) (fun _ _ _ h => h) (by rfl) (fun W hW => ?_) hS ?_
                · obtain ⟨hw1, hw2⟩ := hW
                  go_simp
                simp only [Act.put, List.setIfInBounds_toArray, List.set_cons_zero, List.set_cons_succ]
                refine take_till (i := 13) (some 87) (.pointer (some ⟨gw, ow + (q * 2 + 1), none⟩)) rfl rfl (by kernel_rfl) (by kernel_rfl) (by kernel_rfl) (by kernel_rfl) (by decide) (fun _ _ _ h => h) (by rfl) (fun W hW => ?_) hS ?_
                · obtain ⟨hw1, hw2⟩ := hW
                  go_simp
                simp only [Act.put, List.setIfInBounds_toArray, List.set_cons_zero, List.set_cons_succ]
                refine take_till (i := 14) (some 88) (.int .u8 (p.2.toNat : Int)) rfl rfl (by kernel_rfl) (by kernel_rfl) (by kernel_rfl) (by kernel_rfl) (by decide) (fun _ _ _ h => h) (by rfl) (fun W hW => ?_) hS ?_
                · obtain ⟨hw1, hw2⟩ := hW
                  go_simp
                simp only [Act.put, List.setIfInBounds_toArray, List.set_cons_zero, List.set_cons_succ]
                refine next_till 15 (by kernel_rfl) rfl (fun K hK => ?_)
                go_simp
                refine (k_full2 hi2.drew p.2).mono ?_
                rintro e w6 ⟨g6, rfl, hi6⟩
                refine hK.out _ _ (fun _ => hcl.out _ hi6.under) ?_
                clear hK K
                refine next_till 16 (by kernel_rfl) rfl (fun K hK => ?_)
                go_simp
                refine (k_write2 hi6 HP.out hn1 (by omega)).mono ?_
                rintro e w7 ⟨rfl, hi7⟩
                refine hK.out _ _ (fun _ => hcl.out _ hi7.under) ?_
                clear hK K
                refine next_till 17 (by kernel_rfl) rfl (fun K hK => ?_)
                go_simp
                refine hK.out _ _ (fun _ => hcl.out _ hi7.under) ?_
                clear hK K
                refine done_till (by kernel_rfl) ?_ _
                go_wp2
                go_roundw
                case rel => exact ⟨q + 1, by omega, by go_num, hi7⟩
                case measure => simp [intOf]; omega
              · obtain rfl : q = ws.length := by omega
                go_wp2_with fail
                refine (k_off hi2).mono ?_
                rintro e w3 ⟨rfl, hi3⟩
                clear hi2
                rcases (show r = 0 ∨ r = 1 from by omega) with hr0 | hr1
                · have hz0 : (((r : Int)) == 0) = true := by rw [beq_iff_eq]; omega
                  have hz1 : (((r : Int)) == 1) = false := by rw [beq_eq_false_iff_ne]; omega
                  clear hr0
                  have hv2 : Iv wo (.slice a2 ps.length c2) ps := h2.kept fun q _ _ hq => HB.out.block q hq
                  go_wp2_with fail
                  refine (k_on hi3 (by omega) hv2).mono ?_
                  rintro e w4 ⟨rfl, D, hm4, hd⟩
                  have HD := Lib.hid hd
                  clear hd hi3 hv2
                  go_wp2_with fail
                  go_loopw [12] (fun i wr => ∃ q : Nat, q ≤ sure.length ∧ i = .int .i64 q ∧ Mine wo wr b D) (fun i _ => sure.length - (intOf i).toNat)
                  case atStart => exact ⟨0, Nat.zero_le _, rfl, hm4⟩
                  case round =>
                    obtain ⟨q, hq, rfl, hm5⟩ := hrel
                    by_cases hql : q < sure.length
                    · obtain ⟨c, hc⟩ : ∃ c, sure[q]? = some c := ⟨_, List.getElem?_eq_getElem hql⟩
                      obtain ⟨x, hx⟩ : ∃ x, D.bk[q]? = some x := ⟨_, List.getElem?_eq_getElem (by have := HD.out.2.1; omega)⟩
                      have hcell := bs_later h0 (HB.out.trans (hm5.under.mono hBz)) hc
                      have HC := Lib.hid hc
                      have HX := Lib.hid hx
                      clear hc hx
                      go_wp2_with fail
                      refine (k_full3 hm5 c).mono ?_
                      rintro e w6 ⟨g6, rfl, hm6⟩
                      go_wp2_with fail
                      refine (k_stands hm6 HD.out HX.out).mono ?_
                      clear hcell hm5 hm6
                      rintro e w7 ⟨rfl, hm6⟩
                      go_wp2_with fail
                      go_loopw [13, 14] (fun s i wr => ∃ q2 : Nat, q2 ≤ ws.length ∧ i = .int .i64 q2 ∧ ∃ bl : Bool, s = .bool bl ∧ Hid (KP sure ws q q2 x c → bl = true) ∧ Mine wo wr b D) (fun _ i _ => ws.length - (intOf i).toNat)
                      case atStart => exact ⟨0, Nat.zero_le _, rfl, _, rfl, Lib.hid (fun hp => by
                        rcases hp with hp | ⟨i', p, hp, _⟩
                        · exact decide_eq_true hp
                        · omega), hm6⟩
                      case round =>
                        obtain ⟨q2, hq2, rfl, bl, rfl, hP, hm7⟩ := hrel
                        by_cases hq2l : q2 < ws.length
                        · obtain ⟨p, hp⟩ : ∃ p, ws[q2]? = some p := ⟨_, List.getElem?_eq_getElem hq2l⟩
                          obtain ⟨gw, ow, cw, e, _, _⟩ := h1.open hp
                          simp only [Value.slice.injEq] at e
                          obtain ⟨rfl, -, rfl⟩ := e
                          obtain ⟨hc1, hc2⟩ := pv_later h1 (HB.out.trans (hm7.under.mono hBz)) hp
                          have hc3 : wr.cell? ⟨gw, ow + q2 * 2 + 1, none⟩ = some (.int .u8 (p.2.toNat : Int)) := hc2
                          have HP := Lib.hid hp
                          have hpl := p.1.toNat_lt
                          clear hp
                          cases bl with
                          | true =>
                            go_wp2
                            go_roundw
                            case rel => exact ⟨q2 + 1, by omega, by go_num, true, rfl, Lib.hid (fun _ => rfl), hm7⟩
                            case measure => simp [intOf]; omega
                          | false =>
                            have hmd : (p.1.toNat : Int) % (sure.length : Int) = ((p.1.toNat % sure.length : Nat) : Int) := by omega
                            have hno : ¬ KP sure ws q q2 x c := fun hh => by have := hP.out hh; cases this
                            have HN := Lib.hid hno
                            clear hno hP
                            by_cases he : p.1.toNat % sure.length = q
                            · have hteq : (((p.1.toNat : Int) % (sure.length : Int)) == (q : Int)) = true := by rw [beq_iff_eq]; omega
                              have HE := Lib.hid he
                              clear he hmd
                              go_wp2_with fail
                              refine (k_full3 hm7 p.2).mono ?_
                              rintro e w8 ⟨g8, rfl, hm8⟩
                              go_wp2_with fail
                              refine (k_stands hm8 HD.out HX.out).mono ?_
                              rintro e w9 ⟨rfl, hm9⟩
                              clear hm7 hm8
                              go_wp2
                              all_goals
                                go_roundw
                                case rel =>
                                  refine ⟨q2 + 1, by omega, by go_num, _, rfl, Lib.hid (fun hh => ?_), hm9⟩
                                  have := kp_step hh HP.out HN.out HE.out
                                  first
                                    | exact decide_eq_true this
                                    | simp [this]
                                case measure => simp [intOf]; omega
                            · have hteq : (((p.1.toNat : Int) % (sure.length : Int)) == (q : Int)) = false := by rw [beq_eq_false_iff_ne]; omega
                              have HE := Lib.hid he
                              clear he hmd
                              go_wp2
                              go_roundw
                              case rel =>
                                refine ⟨q2 + 1, by omega, by go_num, false, rfl, Lib.hid (fun hh => ?_), hm7⟩
                                exact absurd (kp_step_no hh HP.out HE.out) HN.out
                              case measure => simp [intOf]; omega
                        · obtain rfl : q2 = ws.length := by omega
                          obtain rfl : bl = true := hP.out (kp_end HD.out HX.out HC.out)
                          clear hP
                          go_wp2
                          go_roundw
                          case rel => exact ⟨q + 1, by omega, by go_num, hm7⟩
                          case measure => simp [intOf]; omega
                    · obtain rfl : q = sure.length := by omega
                      have hfin := HB.out.trans (hm5.under.mono hBz)
                      clear hm5
                      go_wp2
                      go_roundw
                      case rel => exact ⟨r + 1, by omega, by go_num, hfin⟩
                      case measure => simp [intOf]; omega
                · have hz0 : (((r : Int)) == 0) = false := by rw [beq_eq_false_iff_ne]; omega
                  have hz1 : (((r : Int)) == 1) = true := by rw [beq_iff_eq]; omega
                  clear hr1
                  go_wp2_with fail
                  refine (k_on0 hi3 (by omega)).mono ?_
                  rintro e w4 ⟨rfl, D, hm4, hd⟩
                  have HD := Lib.hid hd
                  clear hd hi3
                  go_wp2_with fail
                  go_loopw [12] (fun i wr => ∃ q : Nat, q ≤ sure.length ∧ i = .int .i64 q ∧ Mine wo wr b D) (fun i _ => sure.length - (intOf i).toNat)
                  case atStart => exact ⟨0, Nat.zero_le _, rfl, hm4⟩
                  case round =>
                    obtain ⟨q, hq, rfl, hm5⟩ := hrel
                    by_cases hql : q < sure.length
                    · obtain ⟨c, hc⟩ : ∃ c, sure[q]? = some c := ⟨_, List.getElem?_eq_getElem hql⟩
                      obtain ⟨x, hx⟩ : ∃ x, D.bk[q]? = some x := ⟨_, List.getElem?_eq_getElem (by have := HD.out.2.1; omega)⟩
                      have hcell := bs_later h0 (HB.out.trans (hm5.under.mono hBz)) hc
                      have HC := Lib.hid hc
                      have HX := Lib.hid hx
                      clear hc hx
                      go_wp2_with fail
                      refine (k_full3 hm5 c).mono ?_
                      rintro e w6 ⟨g6, rfl, hm6⟩
                      go_wp2_with fail
                      refine (k_stands hm6 HD.out HX.out).mono ?_
                      clear hcell hm5 hm6
                      rintro e w7 ⟨rfl, hm6⟩
                      have hdt : decide (x.sure = fullOf c) = true := decide_eq_true (kd3_one HD.out HX.out HC.out)
                      rw [hdt]
                      clear hdt
                      go_wp2_with fail
                      go_loopw [13, 14] (fun s i wr => s = .bool true ∧ ∃ q2 : Nat, q2 ≤ ws.length ∧ i = .int .i64 q2 ∧ Mine wo wr b D) (fun _ i _ => ws.length - (intOf i).toNat)
                      case atStart => exact ⟨rfl, 0, Nat.zero_le _, rfl, hm6⟩
                      case round =>
                        obtain ⟨rfl, q2, hq2, rfl, hm7⟩ := hrel
                        by_cases hq2l : q2 < ws.length
                        · go_wp2
                          go_roundw
                          case rel => exact ⟨q + 1, by omega, by go_num, hm7⟩
                          case measure => simp [intOf]; omega
                        · go_wp2
                          go_roundw
                          case rel => exact ⟨q + 1, by omega, by go_num, hm7⟩
                          case measure => simp [intOf]; omega
                    · obtain rfl : q = sure.length := by omega
                      have hfin := HB.out.trans (hm5.under.mono hBz)
                      clear hm5
                      go_wp2
                      go_roundw
                      case rel => exact ⟨r + 1, by omega, by go_num, hfin⟩
                      case measure => simp [intOf]; omega
      · obtain rfl : r = 2 := by omega
        go_wp2_with fail
        refine (works_any _).mono ?_
        rintro e w4 ⟨rfl, b4⟩
        go_wp2
        go_ret
        exact ⟨rfl, hbel.trans (b4.mono hbel.size)⟩
  · by_cases z1 : sure.length = 0
    · have t1 : (((sure.length : Int)) == 0) = true := by rw [beq_iff_eq]; omega
      clear z1 hsm
      go_enter Try.func4, Try.ntmps4
      go_wp2_with fail
      refine (works_any _).mono ?_
      rintro e w4 ⟨rfl, b4⟩
      go_wp2
      go_ret
      exact ⟨rfl, b4⟩
    · have t1 : (((sure.length : Int)) == 0) = false := by rw [beq_eq_false_iff_ne]; omega
      by_cases z2 : 30 < sure.length
      · have t2 : decide ((30 : Int) < (sure.length : Int)) = true := by simp; omega
        clear z1 hsm
        go_enter Try.func4, Try.ntmps4
        go_wp2_with fail
        refine (works_any _).mono ?_
        rintro e w4 ⟨rfl, b4⟩
        go_wp2
        go_ret
        exact ⟨rfl, b4⟩
      · have t2 : decide ((30 : Int) < (sure.length : Int)) = false := by simp; omega
        by_cases z3 : 100 < ws.length
        · have t3 : decide ((100 : Int) < (ws.length : Int)) = true := by simp; omega
          clear z1 hsm
          go_enter Try.func4, Try.ntmps4
          go_wp2_with fail
          refine (works_any _).mono ?_
          rintro e w4 ⟨rfl, b4⟩
          go_wp2
          go_ret
          exact ⟨rfl, b4⟩
        · have t3 : decide ((100 : Int) < (ws.length : Int)) = false := by simp; omega
          have t4 : decide ((100 : Int) < (ps.length : Int)) = true := by simp; omega
          clear z1 hsm
          go_enter Try.func4, Try.ntmps4
          go_wp2_with fail
          refine (works_any _).mono ?_
          rintro e w4 ⟨rfl, b4⟩
          go_wp2
          go_ret
          exact ⟨rfl, b4⟩
end Go.Proofs.Ytcgecjedgbmmkaa
