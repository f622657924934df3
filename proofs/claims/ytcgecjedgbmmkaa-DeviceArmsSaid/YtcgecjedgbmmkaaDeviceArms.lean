/- The walk of DeviceArms: it returns true and writes nothing that was there; no condition. -/
import Derived.Test.YtcgecjedgbmmkaaDevWorks
namespace Go.Proofs.Ytcgecjedgbmmkaa
open Go.RowKit Go.Maps

/-- The device behind r of the things that are done, n being armed. -/
def ArmD (n r : Nat) (D : Dv) : Prop := D.bk.length = 3 ∧ (∀ (k : Nat) (x : Bk), D.bk[k]? = some x → x.loose.length ≤ r) ∧ (r ≤ n → D.on = true ∧ D.left = (n : Int) - r) ∧ (n < r → D.on = false)
def ArmI (w0 : World) (b n r : Nat) (w : World) : Prop := ∃ D, Mine w0 w b D ∧ ArmD n r D
def ArmB (w0 : World) (b n r : Nat) (v : Value) (l : Bytes) (w : World) : Prop := ∃ D, MineB w0 w b D v l ∧ ArmD n r D

theorem ArmI.under {w0 w : World} {b n r : Nat} (h : ArmI w0 b n r w) : Below w0.heap.size w0 w := let ⟨_, h, _⟩ := h; h.under
theorem ArmB.armI {w0 w : World} {b n r : Nat} {v : Value} {l : Bytes} (h : ArmB w0 b n r v l w) : ArmI w0 b n r w := let ⟨D, h, hd⟩ := h; ⟨D, h.mine, hd⟩

theorem ArmI.drew {w0 w : World} {b n r : Nat} (h : ArmI w0 b n r w) : ArmI w0 b n r w.drew := let ⟨D, h, hd⟩ := h; ⟨D, h.later (Below.refl _ w).drew, hd⟩

theorem small_of {n r : Nat} {D : Dv} (h : ArmD n r D) (hr : r ≤ 1000) : Small D := fun k x hx => by
  have := h.2.1 k x hx
  omega

section
variable {w0 w : World} {b n r : Nat} {v : Value} {l : Bytes}

theorem a_start (w : World) : Calls Try.prog 9 #[.int .i64 3] w fun e w' => ∃ b, e = .returned (.tuple #[ptr b, err 0]) ∧ Mine w w' b (fresh 3) := m_new 3 w (by omega) (by omega)

theorem a_arm (h : Mine w0 w b (fresh 3)) (hn : n < 256) : Calls Try.prog 20 #[ptr b, .int .i64 (n : Int)] w fun e w' => e = .returned (err 0) ∧ ArmI w0 b n 0 w' := by
  refine (m_arm h rfl (n : Int) (by omega)).mono ?_
  rintro e w' ⟨rfl, hm⟩
  refine ⟨rfl, _, hm, rfl, fun k x hx => ?_, fun _ => ⟨rfl, ?_⟩, fun hh => by omega⟩
  · obtain ⟨rfl, _⟩ := fresh_get hx
    exact Nat.le_refl _
  · show max (n : Int) (-1) = _
    omega

theorem a_read_yes (h : ArmI w0 b n r w) (hr : r ≤ n) : Calls Try.prog 21 #[ptr b, .int .i64 0] w fun e w' => ∃ g, e = .returned (.tuple #[.slice (some ⟨g, 0, none⟩) 512 512, err 0]) ∧ ArmI w0 b n r w' := by
  obtain ⟨D, h, hd⟩ := h
  obtain ⟨x, hx⟩ : ∃ x, D.bk[0]? = some x := ⟨_, List.getElem?_eq_getElem (by rw [hd.1]; decide)⟩
  refine (m_read h (hd.2.2.1 hr).1 (k := 0) hx).mono ?_
  rintro e w' ⟨g, rfl, _, _, hb⟩
  exact ⟨g, rfl, D, h.later hb, hd⟩

theorem a_read_no (h : ArmI w0 b n r w) (hr : n < r) : Calls Try.prog 21 #[ptr b, .int .i64 0] w fun e w' => e = .returned (.tuple #[nilSl, err 8]) ∧ w = w' := by
  obtain ⟨D, h, hd⟩ := h
  exact m_read_off h (hd.2.2.2 hr) 0

theorem a_power (h : ArmI w0 b n r w) : Calls Try.prog 12 #[ptr b] w fun e w' => e = .returned (.bool (decide ((r : Int) ≤ (n : Int)))) ∧ w = w' := by
  obtain ⟨D, h, hd⟩ := h
  refine (m_power h).mono ?_
  rintro e w' ⟨rfl, rfl⟩
  refine ⟨?_, rfl⟩
  by_cases hr : r ≤ n
  · rw [(hd.2.2.1 hr).1, decide_eq_true (by omega : (r : Int) ≤ (n : Int))]
  · rw [hd.2.2.2 (by omega), decide_eq_false (by omega : ¬ (r : Int) ≤ (n : Int))]

theorem a_full (h : ArmI w0 b n r w) (c : UInt8) : Calls Try.prog 15 #[.int .u8 (c.toNat : Int)] w fun e w' => ∃ g, e = .returned (.slice (some ⟨g, 0, none⟩) 512 512) ∧ ArmB w0 b n r (.slice (some ⟨g, 0, none⟩) 512 512) (fullOf c) w' := by
  obtain ⟨D, h, hd⟩ := h
  refine (m_full h c).mono ?_
  rintro e w' ⟨g, rfl, hm⟩
  exact ⟨g, rfl, D, hm, hd⟩

theorem a_write_no (h : ArmB w0 b n r v l w) (hr : r ≤ n) : Calls Try.prog 14 #[ptr b, .int .i64 3, v] w fun e w' => e = .returned (err 1) ∧ w = w' := by
  obtain ⟨D, h, hd⟩ := h
  exact m_write_no h.mine (hd.2.2.1 hr).1 3 (.inr (by rw [hd.1]; decide)) v

theorem a_flush (h : ArmI w0 b n r w) (hr : r ≤ 1000) : Calls Try.prog 16 #[ptr b] w fun e w' => e = .returned (err (if r < n then 0 else 8)) ∧ ArmI w0 b n (r + 1) w' := by
  obtain ⟨D, h, hd⟩ := h
  rcases Nat.lt_trichotomy r n with h1 | h1 | h1
  · obtain ⟨ho, hl⟩ := hd.2.2.1 (by omega)
    rw [if_pos h1]
    refine (m_flush h ho (by omega) (small_of hd hr)).mono ?_
    rintro e w' ⟨rfl, hm⟩
    refine ⟨rfl, _, hm, by simp [flushed, hd.1], fun k x hx => ?_, fun _ => ⟨ho, ?_⟩, fun hh => by omega⟩
    · simp only [flushed, List.getElem?_map] at hx
      obtain ⟨y, _, rfl⟩ := Option.map_eq_some_iff.1 hx
      exact Nat.zero_le _
    · show spent D.left = _
      rw [hl, spent_pos (by omega)]
      omega
  · obtain ⟨ho, hl⟩ := hd.2.2.1 (by omega)
    rw [if_neg (by omega)]
    refine (m_flush_dies h ho (by omega)).mono ?_
    rintro e w' ⟨rfl, hm⟩
    exact ⟨rfl, _, hm, hd.1, fun k x hx => Nat.le_succ_of_le (hd.2.1 k x hx), fun hh => by omega, fun _ => rfl⟩
  · rw [if_neg (by omega)]
    refine (m_flush_off h (hd.2.2.2 h1)).mono ?_
    rintro e w' ⟨rfl, rfl⟩
    exact ⟨rfl, _, h, hd.1, fun k x hx => Nat.le_succ_of_le (hd.2.1 k x hx), fun hh => by omega, fun _ => hd.2.2.2 h1⟩

theorem a_write (h : ArmB w0 b n r v l w) (hv : l.length = 512) (hr : r ≤ 1000) {k : Nat} (hk : k < 3) : Calls Try.prog 14 #[ptr b, .int .i64 (k : Int), v] w fun e w' => e = .returned (err (if r < n then 0 else 8)) ∧ ArmI w0 b n (r + 1) w' := by
  obtain ⟨D, h, hd⟩ := h
  rcases Nat.lt_trichotomy r n with h1 | h1 | h1
  · obtain ⟨ho, hl⟩ := hd.2.2.1 (by omega)
    rw [if_pos h1]
    refine (m_write h hv ho (by omega) (by rw [hd.1]; exact hk) (small_of hd hr)).mono ?_
    rintro e w' ⟨rfl, hm⟩
    refine ⟨rfl, _, hm, by rw [wrote_length]; exact hd.1, fun j x hx => ?_, fun _ => ⟨ho, ?_⟩, fun hh => by omega⟩
    · rw [wrote_get] at hx
      split at hx
      · obtain ⟨y, hy, rfl⟩ := Option.map_eq_some_iff.1 hx
        have := hd.2.1 j y hy
        simp only [List.length_append, List.length_singleton]
        omega
      · have := hd.2.1 j x hx
        omega
    · show spent D.left = _
      rw [hl, spent_pos (by omega)]
      omega
  · obtain ⟨ho, hl⟩ := hd.2.2.1 (by omega)
    rw [if_neg (by omega)]
    refine (m_write_dies h hv ho (by omega) (by rw [hd.1]; exact hk)).mono ?_
    rintro e w' ⟨rfl, hm⟩
    exact ⟨rfl, _, hm, hd.1, fun k x hx => Nat.le_succ_of_le (hd.2.1 k x hx), fun hh => by omega, fun _ => rfl⟩
  · rw [if_neg (by omega)]
    refine (m_write_off h.mine (hd.2.2.2 h1) _ _).mono ?_
    rintro e w' ⟨rfl, rfl⟩
    exact ⟨rfl, _, h.mine, hd.1, fun k x hx => Nat.le_succ_of_le (hd.2.1 k x hx), fun hh => by omega, fun _ => hd.2.2.2 h1⟩
end

set_option maxRecDepth 100000 in
set_option maxHeartbeats 4000000 in
theorem deviceArms_any {v : Value} {l : List UInt8} (n : Nat) (w : World) (hb : Bs w v l) (hn : n < 256) :
    Calls Try.prog 5 #[.int .u8 (n : Int), v] w (Yes w) := by
  obtain ⟨a, c, rfl, hb⟩ := hb.shape
  by_cases hl : 400 < l.length
  · have hd : ((400 : Int) < (l.length : Int)) := by omega
    go_enter Try.func5, Try.ntmps5
    go_wp2_with fail
    refine (works_any _).mono ?_
    rintro e w4 ⟨rfl, b4⟩
    go_wp2
    go_ret
    exact ⟨rfl, b4⟩
  · have hd : decide ((400 : Int) < (l.length : Int)) = false := by simp; omega
    go_enter Try.func5, Try.ntmps5
    go_wp2_with fail
    refine (a_start _).mono ?_
    rintro e w1 ⟨b, rfl, m1⟩
    go_wp2_with fail
    refine (a_arm m1 hn).mono ?_
    rintro e w2 ⟨rfl, m2⟩
    clear m1
    go_wp2_with fail
    go_loopw [7] (fun i wr => ∃ r : Nat, r ≤ l.length ∧ i = .int .i64 r ∧ ArmI w b n r wr) (fun i _ => l.length - (intOf i).toNat)
    case atStart => exact ⟨0, Nat.zero_le _, rfl, m2⟩
    case round =>
      obtain ⟨r, hr, rfl, hi⟩ := hrel
      have e1 : ((1 : UInt8).toNat : Int) = 1 := rfl
      have F1 := fun (w0 w : World) (b n r : Nat) (h : ArmI w0 b n r w) => a_full h 1
      rw [e1] at F1
      have F1 := Lib.hid F1
      clear e1
      by_cases hlt : r < l.length
      · obtain ⟨g, o, cap, e, hcap, hgw, hcells⟩ := hb.open (by omega)
        simp only [Value.slice.injEq] at e
        obtain ⟨rfl, -, rfl⟩ := e
        obtain ⟨x, hx⟩ : ∃ x, l[r]? = some x := ⟨_, List.getElem?_eq_getElem hlt⟩
        have hcell := hcells r x hx
        have hxl := x.toNat_lt
        have HX := Lib.hid hx
        clear hcells hx m2
        have hk3 := Lib.hid (show (x.toNat : Int) % 3 = ((x.toNat % 3 : Nat) : Int) from by omega)
        have hcl := Lib.hid (fun (W : World) (hW : Below w.heap.size w W) => (hW.cell (p := ⟨g, o + r, none⟩) hgw).trans hcell)
        clear hcell
        rcases Nat.lt_trichotomy r n with h1 | h1 | h1
        · have t1 : decide ((r : Int) < (n : Int)) = true := by simp; omega
          have t2 : decide ((r : Int) ≤ (n : Int)) = true := by simp; omega
          have hif : (if r < n then (0 : Int) else 8) = 0 := by rw [if_pos h1]
          have HI := Lib.hid hif
          clear hif
          go_wp2_with fail
          refine (a_read_yes hi (by omega)).mono ?_
          rintro e w3 ⟨g3, rfl, hi3⟩
          go_wp2_with fail
          refine (a_power hi3).mono ?_
          rintro e w' ⟨he, rfl⟩
          rw [t2] at he
          subst he
          go_wp2_with fail
          refine (F1.out _ _ _ _ _ hi3).mono ?_
          rintro e w4 ⟨g4, rfl, hi4⟩
          go_wp2_with fail
          refine (a_write_no hi4 (by omega)).mono ?_
          rintro e w' ⟨rfl, rfl⟩
          have hi4' := hi4.armI
          clear hi hi3 hi4
          have hc4 := hcl.out _ hi4'.under
          by_cases hq : x.toNat % 4 = 0
          · have hq4 : (((x.toNat : Int) % 4) == 0) = true := by rw [beq_iff_eq]; omega
            clear hq
            go_wp2_with fail
            refine (a_flush hi4' (by omega)).mono ?_
            rintro e w5 ⟨he, hi5⟩
            rw [HI.out] at he
            subst he
            clear hi4'
            go_wp2
            go_roundw
            case rel => exact ⟨r + 1, by omega, by go_num, hi5⟩
            case measure => simp [intOf]; omega
          · have hq4 : (((x.toNat : Int) % 4) == 0) = false := by rw [beq_eq_false_iff_ne]; omega
            clear hq
            have hcw := Lib.hid hc4
            go_wp2_with fail
            refine region_till 13 (fun W => W.cell? ⟨g, o + r, none⟩ = some (.int .u8 (x.toNat : Int))) (by kernel_rfl) hcw.out (fun hS => ?_)
            refine take_till (i := 0) (some 84) (ptr b) rfl rfl (by kernel_rfl) (by kernel_rfl) (by kernel_rfl) (by kernel_rfl) (by decide) (fun _ _ _ h => h) (by rfl) (fun W hW => ?_) hS ?_
            · go_simp
            simp only [Act.put, List.setIfInBounds_toArray, List.set_cons_zero, List.set_cons_succ]
            refine take_till (i := 1) (some 85) (.slice (some ⟨g, o, none⟩) l.length c) rfl rfl (by kernel_rfl) (by kernel_rfl) (by kernel_rfl) (by kernel_rfl) (by decide) (fun _ _ _ h => h) (by rfl) (fun W hW => ?_) hS ?_
            · go_simp
            simp only [Act.put, List.setIfInBounds_toArray, List.set_cons_zero, List.set_cons_succ]
            refine take_till (i := 2) (some 86) (.int .i64 (r : Int)) rfl rfl (by kernel_rfl) (by kernel_rfl) (by kernel_rfl) (by kernel_rfl) (by decide) (fun _ _ _ h => h) (by rfl) (fun W hW => ?_) hS ?_
            · go_simp
            simp only [Act.put, List.setIfInBounds_toArray, List.set_cons_zero, List.set_cons_succ]
            refine take_till (i := 3) (some 87) (.pointer (some ⟨g, o + r, none⟩)) rfl rfl (by kernel_rfl) (by kernel_rfl) (by kernel_rfl) (by kernel_rfl) (by decide) (fun _ _ _ h => h) (by rfl) (fun W hW => ?_) hS ?_
            · go_simp
            simp only [Act.put, List.setIfInBounds_toArray, List.set_cons_zero, List.set_cons_succ]
            refine take_till (i := 4) (some 88) (.int .u8 (x.toNat : Int)) rfl rfl (by kernel_rfl) (by kernel_rfl) (by kernel_rfl) (by kernel_rfl) (by decide) (fun _ _ _ h => h) (by rfl) (fun W hW => ?_) hS ?_
            · go_simp
            simp only [Act.put, List.setIfInBounds_toArray, List.set_cons_zero, List.set_cons_succ]
            refine take_till (i := 5) (some 89) (.int .i64 (x.toNat : Int)) rfl rfl (by kernel_rfl) (by kernel_rfl) (by kernel_rfl) (by kernel_rfl) (by decide) (fun _ _ _ h => h) (by rfl) (fun W hW => ?_) hS ?_
            · go_simp
              exact IntWalk.i64_in _ (by omega)
            simp only [Act.put, List.setIfInBounds_toArray, List.set_cons_zero, List.set_cons_succ]
            refine take_till (i := 6) (some 90) (.int .i64 ((x.toNat % 3 : Nat) : Int)) rfl rfl (by kernel_rfl) (by kernel_rfl) (by kernel_rfl) (by kernel_rfl) (by decide) (fun _ _ _ h => h) (by rfl) (fun W hW => ?_) hS ?_
            · go_simp
              try exact hk3.out
            simp only [Act.put, List.setIfInBounds_toArray, List.set_cons_zero, List.set_cons_succ]
            refine take_till (i := 7) (some 91) (.slice (some ⟨g, o, none⟩) l.length c) rfl rfl (by kernel_rfl) (by kernel_rfl) (by kernel_rfl) (by kernel_rfl) (by decide) (fun _ _ _ h => h) (by rfl) (fun W hW => ?_) hS ?_
            · go_simp
            simp only [Act.put, List.setIfInBounds_toArray, List.set_cons_zero, List.set_cons_succ]
            refine take_till (i := 8) (some 92) (.int .i64 (r : Int)) rfl rfl (by kernel_rfl) (by kernel_rfl) (by kernel_rfl) (by kernel_rfl) (by decide) (fun _ _ _ h => h) (by rfl) (fun W hW => ?_) hS ?_
            · go_simp
            simp only [Act.put, List.setIfInBounds_toArray, List.set_cons_zero, List.set_cons_succ]
            refine take_till (i := 9) (some 93) (.pointer (some ⟨g, o + r, none⟩)) rfl rfl (by kernel_rfl) (by kernel_rfl) (by kernel_rfl) (by kernel_rfl) (by decide) (fun _ _ _ h => h) (by rfl) (fun W hW => ?_) hS ?_
            · go_simp
            simp only [Act.put, List.setIfInBounds_toArray, List.set_cons_zero, List.set_cons_succ]
            refine take_till (i := 10) (some 94) (.int .u8 (x.toNat : Int)) rfl rfl (by kernel_rfl) (by kernel_rfl) (by kernel_rfl) (by kernel_rfl) (by decide) (fun _ _ _ h => h) (by rfl) (fun W hW => ?_) hS ?_
            · go_simp
            simp only [Act.put, List.setIfInBounds_toArray, List.set_cons_zero, List.set_cons_succ]
            refine next_till 11 (by kernel_rfl) rfl (fun K hK => ?_)
            go_simp
            refine (a_full (w := (_ : World).drew) hi4'.drew x).mono ?_
            rintro e w6 ⟨g6, rfl, hi6⟩
            refine hK.out _ _ (fun _ => hcl.out _ hi6.armI.under) ?_
            clear hK K
            refine next_till 12 (by kernel_rfl) rfl (fun K hK => ?_)
            go_simp
            refine (a_write hi6 (filled_length x x) (by omega) (Nat.mod_lt _ (by decide))).mono ?_
            rintro e w7 ⟨he, hi7⟩
            rw [HI.out] at he
            subst he
            refine hK.out _ _ (fun _ => hcl.out _ hi7.under) ?_
            clear hK K
            refine next_till 13 (by kernel_rfl) rfl (fun K hK => ?_)
            go_simp
            refine hK.out _ _ (fun e => absurd rfl e) ?_
            clear hK K
            refine done_till (by kernel_rfl) ?_ _
            go_wp2
            go_roundw
            case rel => exact ⟨r + 1, by omega, by go_num, hi7⟩
            case measure => simp [intOf]; omega
        · have t1 : decide ((r : Int) < (n : Int)) = false := by simp; omega
          have t2 : decide ((r : Int) ≤ (n : Int)) = true := by simp; omega
          have hif : (if r < n then (0 : Int) else 8) = 8 := by rw [if_neg (by omega)]
          have HI := Lib.hid hif
          clear hif
          have hle : r ≤ n := by omega
          have hge : n ≤ r := by omega
          clear h1
          go_wp2_with fail
          refine (a_read_yes hi (by omega)).mono ?_
          rintro e w3 ⟨g3, rfl, hi3⟩
          go_wp2_with fail
          refine (a_power hi3).mono ?_
          rintro e w' ⟨he, rfl⟩
          rw [t2] at he
          subst he
          go_wp2_with fail
          refine (F1.out _ _ _ _ _ hi3).mono ?_
          rintro e w4 ⟨g4, rfl, hi4⟩
          go_wp2_with fail
          refine (a_write_no hi4 (by omega)).mono ?_
          rintro e w' ⟨rfl, rfl⟩
          have hi4' := hi4.armI
          clear hi hi3 hi4
          have hc4 := hcl.out _ hi4'.under
          by_cases hq : x.toNat % 4 = 0
          · have hq4 : (((x.toNat : Int) % 4) == 0) = true := by rw [beq_iff_eq]; omega
            clear hq
            go_wp2_with fail
            refine (a_flush hi4' (by omega)).mono ?_
            rintro e w5 ⟨he, hi5⟩
            rw [HI.out] at he
            subst he
            clear hi4'
            go_wp2
            go_roundw
            case rel => exact ⟨r + 1, by omega, by go_num, hi5⟩
            case measure => simp [intOf]; omega
          · have hq4 : (((x.toNat : Int) % 4) == 0) = false := by rw [beq_eq_false_iff_ne]; omega
            clear hq
            have hcw := Lib.hid hc4
            go_wp2_with fail
            refine region_till 13 (fun W => W.cell? ⟨g, o + r, none⟩ = some (.int .u8 (x.toNat : Int))) (by kernel_rfl) hcw.out (fun hS => ?_)
            refine take_till (i := 0) (some 84) (ptr b) rfl rfl (by kernel_rfl) (by kernel_rfl) (by kernel_rfl) (by kernel_rfl) (by decide) (fun _ _ _ h => h) (by rfl) (fun W hW => ?_) hS ?_
            · go_simp
            simp only [Act.put, List.setIfInBounds_toArray, List.set_cons_zero, List.set_cons_succ]
            refine take_till (i := 1) (some 85) (.slice (some ⟨g, o, none⟩) l.length c) rfl rfl (by kernel_rfl) (by kernel_rfl) (by kernel_rfl) (by kernel_rfl) (by decide) (fun _ _ _ h => h) (by rfl) (fun W hW => ?_) hS ?_
            · go_simp
            simp only [Act.put, List.setIfInBounds_toArray, List.set_cons_zero, List.set_cons_succ]
            refine take_till (i := 2) (some 86) (.int .i64 (r : Int)) rfl rfl (by kernel_rfl) (by kernel_rfl) (by kernel_rfl) (by kernel_rfl) (by decide) (fun _ _ _ h => h) (by rfl) (fun W hW => ?_) hS ?_
            · go_simp
            simp only [Act.put, List.setIfInBounds_toArray, List.set_cons_zero, List.set_cons_succ]
            refine take_till (i := 3) (some 87) (.pointer (some ⟨g, o + r, none⟩)) rfl rfl (by kernel_rfl) (by kernel_rfl) (by kernel_rfl) (by kernel_rfl) (by decide) (fun _ _ _ h => h) (by rfl) (fun W hW => ?_) hS ?_
            · go_simp
            simp only [Act.put, List.setIfInBounds_toArray, List.set_cons_zero, List.set_cons_succ]
            refine take_till (i := 4) (some 88) (.int .u8 (x.toNat : Int)) rfl rfl (by kernel_rfl) (by kernel_rfl) (by kernel_rfl) (by kernel_rfl) (by decide) (fun _ _ _ h => h) (by rfl) (fun W hW => ?_) hS ?_
            · go_simp
            simp only [Act.put, List.setIfInBounds_toArray, List.set_cons_zero, List.set_cons_succ]
            refine take_till (i := 5) (some 89) (.int .i64 (x.toNat : Int)) rfl rfl (by kernel_rfl) (by kernel_rfl) (by kernel_rfl) (by kernel_rfl) (by decide) (fun _ _ _ h => h) (by rfl) (fun W hW => ?_) hS ?_
            · go_simp
              exact IntWalk.i64_in _ (by omega)
            simp only [Act.put, List.setIfInBounds_toArray, List.set_cons_zero, List.set_cons_succ]
            refine take_till (i := 6) (some 90) (.int .i64 ((x.toNat % 3 : Nat) : Int)) rfl rfl (by kernel_rfl) (by kernel_rfl) (by kernel_rfl) (by kernel_rfl) (by decide) (fun _ _ _ h => h) (by rfl) (fun W hW => ?_) hS ?_
            · go_simp
              try exact hk3.out
            simp only [Act.put, List.setIfInBounds_toArray, List.set_cons_zero, List.set_cons_succ]
            refine take_till (i := 7) (some 91) (.slice (some ⟨g, o, none⟩) l.length c) rfl rfl (by kernel_rfl) (by kernel_rfl) (by kernel_rfl) (by kernel_rfl) (by decide) (fun _ _ _ h => h) (by rfl) (fun W hW => ?_) hS ?_
            · go_simp
            simp only [Act.put, List.setIfInBounds_toArray, List.set_cons_zero, List.set_cons_succ]
            refine take_till (i := 8) (some 92) (.int .i64 (r : Int)) rfl rfl (by kernel_rfl) (by kernel_rfl) (by kernel_rfl) (by kernel_rfl) (by decide) (fun _ _ _ h => h) (by rfl) (fun W hW => ?_) hS ?_
            · go_simp
            simp only [Act.put, List.setIfInBounds_toArray, List.set_cons_zero, List.set_cons_succ]
            refine take_till (i := 9) (some 93) (.pointer (some ⟨g, o + r, none⟩)) rfl rfl (by kernel_rfl) (by kernel_rfl) (by kernel_rfl) (by kernel_rfl) (by decide) (fun _ _ _ h => h) (by rfl) (fun W hW => ?_) hS ?_
            · go_simp
            simp only [Act.put, List.setIfInBounds_toArray, List.set_cons_zero, List.set_cons_succ]
            refine take_till (i := 10) (some 94) (.int .u8 (x.toNat : Int)) rfl rfl (by kernel_rfl) (by kernel_rfl) (by kernel_rfl) (by kernel_rfl) (by decide) (fun _ _ _ h => h) (by rfl) (fun W hW => ?_) hS ?_
            · go_simp
            simp only [Act.put, List.setIfInBounds_toArray, List.set_cons_zero, List.set_cons_succ]
            refine next_till 11 (by kernel_rfl) rfl (fun K hK => ?_)
            go_simp
            refine (a_full (w := (_ : World).drew) hi4'.drew x).mono ?_
            rintro e w6 ⟨g6, rfl, hi6⟩
            refine hK.out _ _ (fun _ => hcl.out _ hi6.armI.under) ?_
            clear hK K
            refine next_till 12 (by kernel_rfl) rfl (fun K hK => ?_)
            go_simp
            refine (a_write hi6 (filled_length x x) (by omega) (Nat.mod_lt _ (by decide))).mono ?_
            rintro e w7 ⟨he, hi7⟩
            rw [HI.out] at he
            subst he
            refine hK.out _ _ (fun _ => hcl.out _ hi7.under) ?_
            clear hK K
            refine next_till 13 (by kernel_rfl) rfl (fun K hK => ?_)
            go_simp
            refine hK.out _ _ (fun e => absurd rfl e) ?_
            clear hK K
            refine done_till (by kernel_rfl) ?_ _
            go_wp2
            go_roundw
            case rel => exact ⟨r + 1, by omega, by go_num, hi7⟩
            case measure => simp [intOf]; omega
        · have t1 : decide ((r : Int) < (n : Int)) = false := by simp; omega
          have t2 : decide ((r : Int) ≤ (n : Int)) = false := by simp; omega
          have hif : (if r < n then (0 : Int) else 8) = 8 := by rw [if_neg (by omega)]
          have HI := Lib.hid hif
          clear hif
          go_wp2_with fail
          refine (a_read_no hi (by omega)).mono ?_
          rintro e w' ⟨rfl, rfl⟩
          go_wp2_with fail
          refine (a_power hi).mono ?_
          rintro e w' ⟨he, rfl⟩
          rw [t2] at he
          subst he
          have hi4' := hi
          clear hi
          have hc4 := hcl.out _ hi4'.under
          by_cases hq : x.toNat % 4 = 0
          · have hq4 : (((x.toNat : Int) % 4) == 0) = true := by rw [beq_iff_eq]; omega
            clear hq
            go_wp2_with fail
            refine (a_flush hi4' (by omega)).mono ?_
            rintro e w5 ⟨he, hi5⟩
            rw [HI.out] at he
            subst he
            clear hi4'
            go_wp2
            go_roundw
            case rel => exact ⟨r + 1, by omega, by go_num, hi5⟩
            case measure => simp [intOf]; omega
          · have hq4 : (((x.toNat : Int) % 4) == 0) = false := by rw [beq_eq_false_iff_ne]; omega
            clear hq
            have hcw := Lib.hid hc4
            go_wp2_with fail
            refine region_till 13 (fun W => W.cell? ⟨g, o + r, none⟩ = some (.int .u8 (x.toNat : Int))) (by kernel_rfl) hcw.out (fun hS => ?_)
            refine take_till (i := 0) (some 84) (ptr b) rfl rfl (by kernel_rfl) (by kernel_rfl) (by kernel_rfl) (by kernel_rfl) (by decide) (fun _ _ _ h => h) (by rfl) (fun W hW => ?_) hS ?_
            · go_simp
            simp only [Act.put, List.setIfInBounds_toArray, List.set_cons_zero, List.set_cons_succ]
            refine take_till (i := 1) (some 85) (.slice (some ⟨g, o, none⟩) l.length c) rfl rfl (by kernel_rfl) (by kernel_rfl) (by kernel_rfl) (by kernel_rfl) (by decide) (fun _ _ _ h => h) (by rfl) (fun W hW => ?_) hS ?_
            · go_simp
            simp only [Act.put, List.setIfInBounds_toArray, List.set_cons_zero, List.set_cons_succ]
            refine take_till (i := 2) (some 86) (.int .i64 (r : Int)) rfl rfl (by kernel_rfl) (by kernel_rfl) (by kernel_rfl) (by kernel_rfl) (by decide) (fun _ _ _ h => h) (by rfl) (fun W hW => ?_) hS ?_
            · go_simp
            simp only [Act.put, List.setIfInBounds_toArray, List.set_cons_zero, List.set_cons_succ]
            refine take_till (i := 3) (some 87) (.pointer (some ⟨g, o + r, none⟩)) rfl rfl (by kernel_rfl) (by kernel_rfl) (by kernel_rfl) (by kernel_rfl) (by decide) (fun _ _ _ h => h) (by rfl) (fun W hW => ?_) hS ?_
            · go_simp
            simp only [Act.put, List.setIfInBounds_toArray, List.set_cons_zero, List.set_cons_succ]
            refine take_till (i := 4) (some 88) (.int .u8 (x.toNat : Int)) rfl rfl (by kernel_rfl) (by kernel_rfl) (by kernel_rfl) (by kernel_rfl) (by decide) (fun _ _ _ h => h) (by rfl) (fun W hW => ?_) hS ?_
            · go_simp
            simp only [Act.put, List.setIfInBounds_toArray, List.set_cons_zero, List.set_cons_succ]
            refine take_till (i := 5) (some 89) (.int .i64 (x.toNat : Int)) rfl rfl (by kernel_rfl) (by kernel_rfl) (by kernel_rfl) (by kernel_rfl) (by decide) (fun _ _ _ h => h) (by rfl) (fun W hW => ?_) hS ?_
            · go_simp
              exact IntWalk.i64_in _ (by omega)
            simp only [Act.put, List.setIfInBounds_toArray, List.set_cons_zero, List.set_cons_succ]
            refine take_till (i := 6) (some 90) (.int .i64 ((x.toNat % 3 : Nat) : Int)) rfl rfl (by kernel_rfl) (by kernel_rfl) (by kernel_rfl) (by kernel_rfl) (by decide) (fun _ _ _ h => h) (by rfl) (fun W hW => ?_) hS ?_
            · go_simp
              try exact hk3.out
            simp only [Act.put, List.setIfInBounds_toArray, List.set_cons_zero, List.set_cons_succ]
            refine take_till (i := 7) (some 91) (.slice (some ⟨g, o, none⟩) l.length c) rfl rfl (by kernel_rfl) (by kernel_rfl) (by kernel_rfl) (by kernel_rfl) (by decide) (fun _ _ _ h => h) (by rfl) (fun W hW => ?_) hS ?_
            · go_simp
            simp only [Act.put, List.setIfInBounds_toArray, List.set_cons_zero, List.set_cons_succ]
            refine take_till (i := 8) (some 92) (.int .i64 (r : Int)) rfl rfl (by kernel_rfl) (by kernel_rfl) (by kernel_rfl) (by kernel_rfl) (by decide) (fun _ _ _ h => h) (by rfl) (fun W hW => ?_) hS ?_
            · go_simp
            simp only [Act.put, List.setIfInBounds_toArray, List.set_cons_zero, List.set_cons_succ]
            refine take_till (i := 9) (some 93) (.pointer (some ⟨g, o + r, none⟩)) rfl rfl (by kernel_rfl) (by kernel_rfl) (by kernel_rfl) (by kernel_rfl) (by decide) (fun _ _ _ h => h) (by rfl) (fun W hW => ?_) hS ?_
            · go_simp
            simp only [Act.put, List.setIfInBounds_toArray, List.set_cons_zero, List.set_cons_succ]
            refine take_till (i := 10) (some 94) (.int .u8 (x.toNat : Int)) rfl rfl (by kernel_rfl) (by kernel_rfl) (by kernel_rfl) (by kernel_rfl) (by decide) (fun _ _ _ h => h) (by rfl) (fun W hW => ?_) hS ?_
            · go_simp
            simp only [Act.put, List.setIfInBounds_toArray, List.set_cons_zero, List.set_cons_succ]
            refine next_till 11 (by kernel_rfl) rfl (fun K hK => ?_)
            go_simp
            refine (a_full (w := (_ : World).drew) hi4'.drew x).mono ?_
            rintro e w6 ⟨g6, rfl, hi6⟩
            refine hK.out _ _ (fun _ => hcl.out _ hi6.armI.under) ?_
            clear hK K
            refine next_till 12 (by kernel_rfl) rfl (fun K hK => ?_)
            go_simp
            refine (a_write hi6 (filled_length x x) (by omega) (Nat.mod_lt _ (by decide))).mono ?_
            rintro e w7 ⟨he, hi7⟩
            rw [HI.out] at he
            subst he
            refine hK.out _ _ (fun _ => hcl.out _ hi7.under) ?_
            clear hK K
            refine next_till 13 (by kernel_rfl) rfl (fun K hK => ?_)
            go_simp
            refine hK.out _ _ (fun e => absurd rfl e) ?_
            clear hK K
            refine done_till (by kernel_rfl) ?_ _
            go_wp2
            go_roundw
            case rel => exact ⟨r + 1, by omega, by go_num, hi7⟩
            case measure => simp [intOf]; omega
      · obtain rfl : r = l.length := by omega
        have hu := hi.under
        clear hi m2
        go_wp2_with fail
        refine (works_any _).mono ?_
        rintro e w4 ⟨rfl, b4⟩
        go_wp2
        go_ret
        exact ⟨rfl, hu.trans (b4.mono hu.size)⟩
end Go.Proofs.Ytcgecjedgbmmkaa
