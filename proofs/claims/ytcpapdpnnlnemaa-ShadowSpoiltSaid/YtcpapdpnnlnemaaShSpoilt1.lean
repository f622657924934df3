/- The walk of ShadowSpoilt where the younger root is spoilt: it returns true and writes nothing that was there; condition: the bodies and the generation are within the limits. -/
import Derived.Test.YtcpapdpnnlnemaaShSpoilt0
namespace Go.Proofs.Ytcpapdpnnlnemaa
open Go.RowKit Go.Maps

set_option maxRecDepth 1000000 in
set_option maxHeartbeats 4000000 in
theorem spoilt_false {x y : Value} {one two : Bytes} (g : Nat) (at_ t : Nat) (w : World) (h1 : Bs w x one) (h2 : Bs w y two) (hat : at_ < 65536) (ht : t < 4294967296) (hl1 : one.length ≤ 480) (hl2 : two.length ≤ 480) (hg1 : 1 ≤ g) (hg2 : g ≤ 2305843009213693952) :
    Calls Try.prog 5 #[.int .u64 (g : Int), x, y, .bool false, .int .u16 (at_ : Int), .int .u32 (t : Int)] w (Yes w) := by
  obtain ⟨a1, c1, rfl, _⟩ := h1.shape
  obtain ⟨a2, c2, rfl, _⟩ := h2.shape
  have G1 : genB g = true := genB_iff.2 ⟨hg1, by omega⟩
  have G2 : genB (g + 1) = true := genB_iff.2 ⟨by omega, by omega⟩
  have f1 : (one.length : Int) ≤ 480 := by omega
  have f2 : (two.length : Int) ≤ 480 := by omega
  have f3 : ¬ (g : Int) < 1 := by omega
  have f4 : (g : Int) ≤ 2305843009213693952 := by omega
  have e1 : (g : Int) + 1 = ((g + 1 : Nat) : Int) := by omega
  have ek : ((g : Int) + 1) % 2 = ((twoK g false : Nat) : Int) := by unfold twoK; simp
  obtain ⟨C1, C2⟩ := two_codes (x := one) (y := two) G1 G2 hl1 hl2
  obtain ⟨O1, O2, O3, O4⟩ := two_on (x := one) (y := two) G1 G2 hl1 hl2
  have B1 := two_block (x := one) (y := two) G1 G2 hl1 hl2 false
  have LW := fun m => two_load (x := one) (y := two) G1 G2 hl1 hl2 false (m := m)
  have U0 : Upto (fresh 2) 0 := by rw [fresh_two]; exact calm_upto calm_nil
  have U1 := (sDev_upto U0 g one).1
  have LL : (twoL g one two false).length = 512 ∧ rightB (twoL g one two false) = true := by
    unfold twoL
    rw [if_neg (by decide)]
    exact ⟨sealG_length hl2, sealL_right _ _⟩
  have H := Lib.hid (And.intro h1 (And.intro h2 (And.intro C1 (And.intro C2 (And.intro O1 (And.intro O4 (And.intro B1 (And.intro LW (And.intro U0 (And.intro U1 (And.intro LL (And.intro e1 ek))))))))))))
  clear h1 h2 hl1 hl2 hg1 hg2 G1 G2 C1 C2 O1 O2 O3 O4 B1 LW U0 U1 LL e1 ek
  go_enter Try.func5, Try.ntmps5
  go_wp2_with fail
  refine (own_new 2 w (by decide) (by decide)).mono ?_
  rintro e w1 ⟨d, rfl, h1⟩
  have H1 := Lib.hid h1
  clear h1
  go_wp2_with fail
  refine (own_save g H1.out H.out.2.2.2.2.2.2.2.2.1 (by decide) (by omega) (H.out.1.below H1.out.under)).mono ?_
  rintro e w2 ⟨he, h2⟩
  rw [H.out.2.2.1] at he
  subst he
  have H2 := Lib.hid h2
  clear h2 H1
  go_wp2_with fail
  rw [H.out.2.2.2.2.2.2.2.2.2.2.2.1]
  refine (own_save (g + 1) H2.out H.out.2.2.2.2.2.2.2.2.2.1 (by decide) (by omega) (H.out.2.1.below H2.out.under)).mono ?_
  rintro e w3 ⟨he, h3⟩
  rw [H.out.2.2.2.1] at he
  subst he
  have H3 : Hid (Own w w3 d (twoD g one two) fun _ => True) := Lib.hid h3
  clear h3 H2
  go_wp2_with fail
  rw [H.out.2.2.2.2.2.2.2.2.2.2.2.2]
  refine (spo_read H3.out H.out.2.2.2.2.1 H.out.2.2.2.2.2.2.1).mono ?_
  rintro e w4 ⟨gb, rfl, h4⟩
  rw [show Bk.stands ⟨twoL g one two false, []⟩ = twoL g one two false from rfl] at h4
  have H4 := Lib.hid (And.intro h4 (And.intro H.out.2.2.2.2.2.2.2.1 (And.intro H.out.2.2.2.2.2.1 (And.intro H.out.1 (And.intro H.out.2.1 H.out.2.2.2.2.2.2.2.2.2.2.1)))))
  have E := Lib.hid (And.intro H.out.2.2.2.2.2.2.2.2.2.2.2.1 H.out.2.2.2.2.2.2.2.2.2.2.2.2)
  clear h4 H3 H
  obtain ⟨p, hp⟩ : ∃ p, at_ % 4065 = p := ⟨_, rfl⟩
  have hpI : (at_ : Int) % 4065 = ((p : Nat) : Int) := by omega
  have HP := Lib.hid hpI
  have hp2 : p < 4065 := by omega
  clear hpI hp
  go_wp2_with fail
  rw [HP.out]
  go_loopw [19] (fun i wr => ∃ r : Nat, r ≤ 32 ∧ i = .int .i64 r ∧ ∃ m, Spo w wr d (twoD g one two) gb m ∧ Turned (twoL g one two false) m p t r) (fun i _ => 32 - (intOf i).toNat)
  case atStart => exact ⟨0, by omega, rfl, twoL g one two false, H4.out.1, Turned.zero _ _ _⟩
  case round =>
    obtain ⟨r, hr32, rfl, m, ho, hT⟩ := hrel
    have hml : m.length = 512 := hT.1.trans H4.out.2.2.2.2.2.1
    by_cases hlt : r < 32
    · have ha1 := and_one (t / 2 ^ r) (Nat.lt_of_le_of_lt (Nat.div_le_self _ _) ht)
      rw [Int.natCast_ediv, Int.natCast_pow] at ha1
      rw [show ((2 : Nat) : Int) = 2 from rfl] at ha1
      rcases Nat.mod_two_eq_zero_or_one (t / 2 ^ r) with hbit | hbit
      · have hT' := hT.skip hbit
        rw [hbit] at ha1
        have HH := Lib.hid (And.intro hT' ho)
        clear hml hbit hT hT' ho
        go_wp2
        go_roundw
        case rel => exact ⟨r + 1, by omega, by go_num, m, HH.out.2, HH.out.1⟩
        case measure => simp [intOf]; omega
      · have hT' := hT.turn hbit (by omega)
        rw [hbit] at ha1
        obtain ⟨y, hy⟩ : ∃ y, m[(p + r) / 8]? = some y := ⟨_, List.getElem?_eq_getElem (by omega)⟩
        obtain ⟨c4, c5⟩ := ho.get hy
        have i0 : (((p + r) / 8 : Nat) : Int) < 512 := by omega
        have hmm : Turned (twoL g one two false) (m.set ((p + r) / 8) (UInt8.ofNat (y.toNat ^^^ 2 ^ ((p + r) % 8)))) p t (r + 1) := by
          have e := hT'
          unfold turnL at e
          rw [hy] at e
          exact e
        have HH := Lib.hid (And.intro hmm ho)
        clear hml hbit hy hT hT' ho hmm
        go_wp2
        go_roundw
        case rel =>
          refine ⟨r + 1, by omega, by go_num, m.set ((p + r) / 8) (UInt8.ofNat (y.toNat ^^^ 2 ^ ((p + r) % 8))), ?_, HH.out.1⟩
          rw [turn_val y _ (Nat.mod_lt _ (by decide))]
          exact HH.out.2.set _ _
        case measure => simp [intOf]; omega
    · obtain rfl : r = 32 := by omega
      have hcode := H4.out.2.1 m hml t (fun e => same_turned hT e) (fun e => open_turned H4.out.2.2.2.2.2.1 H4.out.2.2.2.2.2.2 ht (by omega) hT e)
      have hw := spo_write ho hml H4.out.2.2.1 (by decide) (twoK g false : Int)
      rw [hcode.1] at hw
      have HW := Lib.hid (And.intro hw hcode.2)
      clear hml hT hcode hw ho
      go_wp2_with fail
      refine HW.out.1.mono ?_
      rintro e w5 ⟨rfl, h5⟩
      have H5 := Lib.hid h5
      clear h5
      go_wp2_with fail
      refine (own_load H5.out).mono ?_
      rintro e w6 ⟨v6, he, h6⟩
      rw [HW.out.2] at he h6
      by_cases h0 : t = 0
      · rw [if_neg (fun h => h.2 h0)] at he h6
        subst he
        subst h0
        have hb6 := h6.under
        obtain ⟨a6, c6, rfl, _⟩ := h6.now.2.shape
        have r6 := run_string_bs bt (d := 9) Try.underlying9 w6 h6.now.2
        have r7 := run_string_bs bt (d := 9) Try.underlying9 w6 (H4.out.2.2.2.2.1.below hb6)
        have HB := Lib.hid hb6
        clear h6 hb6 H5 HW
        go_wp2_with fail
        refine (works_any _).mono ?_
        rintro e w7 ⟨rfl, b7⟩
        go_wp2
        go_ret
        exact ⟨rfl, HB.out.trans (b7.mono HB.out.size)⟩
      · rw [if_pos ⟨trivial, h0⟩] at he h6
        subst he
        have hz : ((t : Int) != 0) = true := by simpa using h0
        clear h0
        have hb6 := h6.under
        obtain ⟨a6, c6, rfl, _⟩ := h6.now.2.shape
        have r6 := run_string_bs bt (d := 9) Try.underlying9 w6 h6.now.2
        have r7 := run_string_bs bt (d := 9) Try.underlying9 w6 (H4.out.2.2.2.1.below hb6)
        have HB := Lib.hid hb6
        clear h6 hb6 H5 HW
        go_wp2_with fail
        refine (works_any _).mono ?_
        rintro e w7 ⟨rfl, b7⟩
        go_wp2
        go_ret
        exact ⟨rfl, HB.out.trans (b7.mono HB.out.size)⟩
end Go.Proofs.Ytcpapdpnnlnemaa
