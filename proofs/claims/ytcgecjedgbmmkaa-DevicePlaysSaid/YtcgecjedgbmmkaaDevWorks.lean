/- The anchor of the statements of layer 3 (the chapter's examples) returns true and writes nothing that was there; no condition. -/
import Derived.Test.YtcgecjedgbmmkaaDevMine
namespace Go.Proofs.Ytcgecjedgbmmkaa
open Go.RowKit Go.Maps

theorem small2 {x y : Bk} {on : Bool} {n : Int} (hx : x.loose.length < 4294967296) (hy : y.loose.length < 4294967296) : Small ⟨[x, y], on, n⟩ := by
  intro k z hz
  match k, hz with
  | 0, hz => simp at hz; subst hz; exact hx
  | 1, hz => simp at hz; subst hz; exact hy
  | k + 2, hz => simp at hz

set_option maxRecDepth 100000 in
set_option maxHeartbeats 4000000 in
theorem works_any (w : World) : Calls Try.prog 8 #[] w (Yes w) := by
  have e65 : ((65 : UInt8).toNat : Int) = 65 := rfl
  have e66 : ((66 : UInt8).toNat : Int) = 66 := rfl
  have e67 : ((67 : UInt8).toNat : Int) = 67 := rfl
  have F65 := fun {w0 w : World} {b : Nat} {D : Dv} (h : Mine w0 w b D) => m_full h 65
  have F66 := fun {w0 w : World} {b : Nat} {D : Dv} (h : Mine w0 w b D) => m_full h 66
  have F67 := fun {w0 w : World} {b : Nat} {D : Dv} (h : Mine w0 w b D) => m_full h 67
  rw [e65] at F65
  rw [e66] at F66
  rw [e67] at F67
  have HF := Lib.hid (And.intro @F65 (And.intro @F66 @F67))
  have hA : (fullOf 65).length = 512 := filled_length 65 65
  have hB : (fullOf 66).length = 512 := filled_length 66 66
  have hC : (fullOf 67).length = 512 := filled_length 67 67
  have HL := Lib.hid (And.intro hA (And.intro hB hC))
  clear hA hB hC F65 F66 F67 e65 e66 e67
  generalize fullOf 65 = A at *
  generalize fullOf 66 = B at *
  generalize fullOf 67 = C at *
  go_enter Try.func8, Try.ntmps8
  go_wp2_with fail
  refine (m_new 2 _ (by omega) (by omega)).mono ?_
  rintro e w1 ⟨b, rfl, m1⟩
  have m1 : Mine w w1 b ⟨[⟨noughts, []⟩, ⟨noughts, []⟩], true, -1⟩ := m1
  go_wp2_with fail
  refine (m_size m1).mono ?_
  rintro e w' ⟨rfl, rfl⟩
  go_wp2_with fail
  refine (m_power m1).mono ?_
  rintro e w' ⟨rfl, rfl⟩
  go_wp2_with fail
  refine (HF.out.1 m1).mono ?_
  rintro e w2 ⟨g, rfl, m2⟩
  go_wp2_with fail
  refine (m_write m2 HL.out.1 rfl (by simp) (k := 0) (by simp) (small2 (by simp) (by simp))).mono ?_
  rintro e w3 ⟨rfl, m3⟩
  have m3 : Mine w w3 b ⟨[⟨noughts, [A]⟩, ⟨noughts, []⟩], true, -1⟩ := m3
  go_wp2_with fail
  refine (m_flush m3 rfl (by simp) (small2 (by simp) (by simp))).mono ?_
  rintro e w4 ⟨rfl, m4⟩
  have m4 : Mine w w4 b ⟨[⟨A, []⟩, ⟨noughts, []⟩], true, -1⟩ := m4
  go_wp2_with fail
  refine (HF.out.2.1 m4).mono ?_
  rintro e w5 ⟨g, rfl, m5⟩
  go_wp2_with fail
  refine (m_write m5 HL.out.2.1 rfl (by simp) (k := 0) (by simp) (small2 (by simp) (by simp))).mono ?_
  rintro e w6 ⟨rfl, m6⟩
  have m6 : Mine w w6 b ⟨[⟨A, [B]⟩, ⟨noughts, []⟩], true, -1⟩ := m6
  go_wp2_with fail
  refine (HF.out.2.2 m6).mono ?_
  rintro e w7 ⟨g, rfl, m7⟩
  go_wp2_with fail
  refine (m_write m7 HL.out.2.2 rfl (by simp) (k := 0) (by simp) (small2 (by simp) (by simp))).mono ?_
  rintro e w8 ⟨rfl, m8⟩
  have m8 : Mine w w8 b ⟨[⟨A, [B, C]⟩, ⟨noughts, []⟩], true, -1⟩ := m8
  go_wp2_with fail
  refine (HF.out.1 m8).mono ?_
  rintro e w9 ⟨g, rfl, m9⟩
  go_wp2_with fail
  refine (m_write m9 HL.out.1 rfl (by simp) (k := 1) (by simp) (small2 (by simp) (by simp))).mono ?_
  rintro e w10 ⟨rfl, m10⟩
  have m10 : Mine w w10 b ⟨[⟨A, [B, C]⟩, ⟨noughts, [A]⟩], true, -1⟩ := m10
  go_wp2_with fail
  refine (HF.out.2.2 m10).mono ?_
  rintro e w11 ⟨g, rfl, m11⟩
  go_wp2_with fail
  refine (stands_b m11 rfl (k := 0) (x := ⟨A, [B, C]⟩) rfl).mono ?_
  rintro e w12 ⟨he, m12⟩
  have hd : decide ((Bk.mk A [B, C]).stands = C) = true := decide_eq_true rfl
  rw [hd] at he
  subst he
  clear hd
  go_wp2_with fail
  refine (m_off m12 rfl).mono ?_
  rintro e w13 ⟨rfl, m13⟩
  have m13 : Mine w w13 b ⟨[⟨A, [B, C]⟩, ⟨noughts, [A]⟩], false, -1⟩ := m13
  clear m1 m2 m3 m4 m5 m6 m7 m8 m9 m10 m11 m12
  go_wp2_with fail
  refine (m_read_off m13 rfl 0).mono ?_
  rintro e w' ⟨rfl, rfl⟩
  go_wp2_with fail
  refine (m_on (m13.lit [1, 0] (by decide) (by decide) rfl rfl) rfl (small2 (by simp) (by simp))).mono ?_
  rintro e w14 ⟨rfl, m14⟩
  have m14 : Mine w w14 b ⟨[⟨B, []⟩, ⟨noughts, []⟩], true, -1⟩ := m14
  go_wp2_with fail
  refine (HF.out.2.1 m14).mono ?_
  rintro e w15 ⟨g, rfl, m15⟩
  go_wp2_with fail
  refine (stands_b m15 rfl (k := 0) (x := ⟨B, []⟩) rfl).mono ?_
  rintro e w16 ⟨he, m16⟩
  have hd : decide ((Bk.mk B []).stands = B) = true := decide_eq_true rfl
  rw [hd] at he
  subst he
  clear hd
  obtain ⟨w17, hmk, o17, g17⟩ := run_zeros_bs bt w16 w16.heap.size .i64 .i64 512 (by decide) (Nat.le_refl _)
  rw [show ((512 : Nat) : Int) = 512 from rfl] at hmk
  have m17 : MineB w w17 b ⟨[⟨B, []⟩, ⟨noughts, []⟩], true, -1⟩ (.slice (some ⟨w16.heap.size, 0, none⟩) 512 512) noughts :=
    m16.with ((Below.refl _ _).grown g17 (Nat.le_refl _) (fun _ h => by cases h)) o17.cel.1 List.length_replicate (Nat.le_refl _)
  clear o17 g17 m14 m15 m16
  go_wp2_with fail
  refine (stands_b m17 rfl (k := 1) (x := ⟨noughts, []⟩) rfl).mono ?_
  rintro e w18 ⟨he, m18⟩
  have hd : decide ((Bk.mk noughts []).stands = noughts) = true := decide_eq_true rfl
  rw [hd] at he
  subst he
  clear hd hmk m17
  go_wp2_with fail
  refine (m_arm m18 rfl 1 (by decide)).mono ?_
  rintro e w19 ⟨rfl, m19⟩
  have m19 : Mine w w19 b ⟨[⟨B, []⟩, ⟨noughts, []⟩], true, 1⟩ := m19
  go_wp2_with fail
  refine (HF.out.1 m19).mono ?_
  rintro e w20 ⟨g, rfl, m20⟩
  go_wp2_with fail
  refine (m_write m20 HL.out.1 rfl (by simp) (k := 0) (by simp) (small2 (by simp) (by simp))).mono ?_
  rintro e w21 ⟨rfl, m21⟩
  have m21 : Mine w w21 b ⟨[⟨B, [A]⟩, ⟨noughts, []⟩], true, 0⟩ := m21
  clear m18 m19 m20
  go_wp2_with fail
  refine (m_flush_dies m21 rfl rfl).mono ?_
  rintro e w22 ⟨rfl, m22⟩
  have m22 : Mine w w22 b ⟨[⟨B, [A]⟩, ⟨noughts, []⟩], false, 0⟩ := m22
  go_wp2_with fail
  refine (HF.out.2.2 m22).mono ?_
  rintro e w23 ⟨g, rfl, m23⟩
  have m23 := m23.mine
  go_wp2_with fail
  refine (m_write_off m23 rfl 0 _).mono ?_
  rintro e w' ⟨rfl, rfl⟩
  go_wp2_with fail
  refine (m_on m23.noI rfl (small2 (by simp) (by simp))).mono ?_
  rintro e w24 ⟨rfl, m24⟩
  have m24 : Mine w w24 b ⟨[⟨B, []⟩, ⟨noughts, []⟩], true, -1⟩ := m24
  go_wp2_with fail
  refine (HF.out.2.1 m24).mono ?_
  rintro e w25 ⟨g, rfl, m25⟩
  go_wp2_with fail
  refine (stands_b m25 rfl (k := 0) (x := ⟨B, []⟩) rfl).mono ?_
  rintro e w26 ⟨he, m26⟩
  have hd : decide ((Bk.mk B []).stands = B) = true := decide_eq_true rfl
  rw [hd] at he
  subst he
  clear hd m21 m22 m23 m24 m25
  have hfin := m26.under
  clear m26
  go_wp2
  go_ret
  exact ⟨rfl, hfin⟩
end Go.Proofs.Ytcgecjedgbmmkaa
