/- The walk of CrcTurned: it returns true and writes nothing that was there; no condition. -/
import Derived.Test.YtgedaoodldohkaaCrcSums
namespace Go.Proofs.Ytgedaoodldohkaa
open Go.RowKit

/-- The four bytes of a number, the lowest first. -/
def four (s : Nat) : List UInt8 := [UInt8.ofNat s, UInt8.ofNat (s / 256), UInt8.ofNat (s / 65536), UInt8.ofNat (s / 16777216)]

theorem leN_four_eq (s : Nat) (h : s < 4294967296) : leN (four s) = s := by
  unfold four
  rw [leN_four]
  simp only [UInt8.toNat_ofNat']
  omega

theorem right_sealed (l : List UInt8) : rightB (l ++ four (sumN l)) = true := by
  have h4 : (l ++ four (sumN l)).length - 4 = l.length := by simp [four]
  unfold rightB
  rw [h4, List.drop_left, List.take_left, leN_four_eq _ (sumN_lt l)]
  simp [four]

/-- The bits of t, up to i, turned from at on. -/
def Turned (l m : List UInt8) (at_ t i : Nat) : Prop := m.length = l.length ∧ leN m = leN l ^^^ (t % 2 ^ i) * 2 ^ at_

theorem Turned.zero (l : List UInt8) (at_ t : Nat) : Turned l l at_ t 0 := ⟨rfl, by simp [Nat.mod_one]⟩
theorem Turned.skip {l m : List UInt8} {at_ t i : Nat} (h : Turned l m at_ t i) (hb : t / 2 ^ i % 2 = 0) : Turned l m at_ t (i + 1) := by
  refine ⟨h.1, ?_⟩
  rw [h.2, mod_succ, hb, Nat.zero_mul, Nat.xor_zero]

theorem Turned.turn {l m : List UInt8} {at_ t i : Nat} (h : Turned l m at_ t i) (hb : t / 2 ^ i % 2 = 1) (hi : (at_ + i) / 8 < m.length) :
    Turned l (turnL m ((at_ + i) / 8) (2 ^ ((at_ + i) % 8))) at_ t (i + 1) := by
  have hm : 2 ^ ((at_ + i) % 8) < 256 := by
    have : 2 ^ ((at_ + i) % 8) ≤ 2 ^ 7 := Nat.pow_le_pow_right (by decide) (by omega)
    omega
  refine ⟨by rw [turnL_length]; exact h.1, ?_⟩
  rw [leN_turn _ _ _ hi hm, h.2, mod_succ, hb, Nat.one_mul, xor_mul, ← Nat.pow_add, ← Nat.pow_add, Nat.xor_assoc]
  congr 3
  omega

theorem turned_right {l m : List UInt8} {at_ t : Nat} (h4 : 4 ≤ l.length) (hr : rightB l = true) (ht : t < 4294967296) (hat : at_ ≤ 8 * l.length) (h : Turned l m at_ t 32) : rightB m = decide (t = 0) := by
  apply right_turned l m at_ t h4 h.1 hr ht hat
  rw [h.2, Nat.mod_eq_of_lt ht]

theorem u8_one_shl (j : Nat) (h : j < 8) : (2 : Int) ^ j % 256 = ((2 ^ j : Nat) : Int) := by
  have h1 : 2 ^ j ≤ 2 ^ 7 := Nat.pow_le_pow_right (by decide) (by omega)
  have h2 : (2 : Int) ^ j = ((2 ^ j : Nat) : Int) := by simp
  rw [h2]
  generalize 2 ^ j = q at *
  omega

theorem turn_val (y : UInt8) (j : Nat) (h : j < 8) : Value.int .u8 (bits .xor .u8 (y.toNat : Int) ((2 : Int) ^ j % 256)) = bv (UInt8.ofNat (y.toNat ^^^ 2 ^ j)) := by
  have h1 : 2 ^ j ≤ 2 ^ 7 := Nat.pow_le_pow_right (by decide) (by omega)
  have h2 : y.toNat ^^^ 2 ^ j < 256 := Nat.xor_lt_two_pow (n := 8) y.toNat_lt (by omega)
  rw [u8_one_shl j h, u8_xor_nat y.toNat (2 ^ j) y.toNat_lt (by omega)]
  unfold bv
  rw [UInt8.toNat_ofNat', Nat.mod_eq_of_lt h2]

theorem four_cells (s : Nat) (h : s < 4294967296) : (#[.int .u8 ((s : Int) % 256), .int .u8 ((s : Int) / 256 % 256), .int .u8 ((s : Int) / 65536 % 256), .int .u8 ((s : Int) / 16777216)] : Array Value) = (bvs (four s)).toArray := by
  simp only [bvs, four, List.map_cons, List.map_nil, bv, UInt8.toNat_ofNat']
  have e1 : ((s % 2 ^ 8 : Nat) : Int) = (s : Int) % 256 := by omega
  have e2 : ((s / 256 % 2 ^ 8 : Nat) : Int) = (s : Int) / 256 % 256 := by omega
  have e3 : ((s / 65536 % 2 ^ 8 : Nat) : Int) = (s : Int) / 65536 % 256 := by omega
  have e4 : ((s / 16777216 % 2 ^ 8 : Nat) : Int) = (s : Int) / 16777216 := by omega
  rw [e1, e2, e3, e4]

set_option maxRecDepth 100000 in
set_option maxHeartbeats 1000000 in
theorem crcTurned_any {b : Value} {l : List UInt8} (at_ t : Nat) (w : World) (hb : Bs w b l) (hat : at_ < 65536) (ht : t < 4294967296) :
    Calls Try.prog 6 #[b, .int .u16 (at_ : Int), .int .u32 (t : Int)] w (Yes w) := by
  by_cases hl : l.length ≤ 8192
  · have hR := Lib.hid (right_sealed l)
    have hs := sumN_lt l
    go_enter Try.func6, Try.ntmps6
    go_wp2_with fail
    refine (vast_no _ hb hl).mono ?_
    rintro e w1 ⟨rfl, rfl⟩
    go_wp2_with fail
    refine (sum_any _ hb).mono ?_
    rintro e w1 ⟨rfl, rfl⟩
    go_wp2_with fail
    refine (copied_any _ hb (by omega)).mono ?_
    rintro e w1 ⟨v1, rfl, o1, b1⟩
    have hb2 := bs_lit w1 _ (four (sumN l)) 4 (four_cells (sumN l) hs) rfl (by simp [four])
    have o2 := o1.below ((Below.refl _ _).alloc (Nat.le_refl _) (.cells #[.int .u8 ((sumN l : Int) % 256), .int .u8 ((sumN l : Int) / 256 % 256), .int .u8 ((sumN l : Int) / 65536 % 256), .int .u8 ((sumN l : Int) / 16777216)] 5))
    have b2 := b1.alloc b1.size (.cells #[.int .u8 ((sumN l : Int) % 256), .int .u8 ((sumN l : Int) / 256 % 256), .int .u8 ((sumN l : Int) / 65536 % 256), .int .u8 ((sumN l : Int) / 16777216)] 5)
    have hs2 : l.length + (four (sumN l)).length ≤ 140737488355328 := by simp [four]; omega
    have hz := b2.size
    go_wp2_with (at_builtin; refine wpList_append_bs bt rfl _ _ rfl w.heap.size rfl rfl o2 hb2 hs2 hz ?_; intro v3 w3 o3 g3)
    refine (right_b _ o3.bs).mono ?_
    rintro e w4 ⟨he, b4⟩
    rw [hR.out] at he
    subst he
    have b3 := (b2.grown g3 hz (fun j hj => (World.ownsRow.lt o2 j hj).1)).trans (b4.mono (b2.grown g3 hz (fun j hj => (World.ownsRow.lt o2 j hj).1)).size)
    have o4 := o3.below b4
    have hR' := hR.out
    have h4 : 4 ≤ (l ++ four (sumN l)).length := by simp [four]
    have hl4 : (l ++ four (sumN l)).length ≤ 8196 := by simp [four]; omega
    clear o3 o2 o1 hb2 hs2 hz b1 b2 b4 g3 hR hs hl
    generalize l ++ four (sumN l) = L at *
    obtain ⟨g, cap, rfl, hg⟩ := o4.form (by omega)
    have hp0 : (at_ : Int) % (8 * (L.length : Int) - 31) = ((at_ % (8 * L.length - 31) : Nat) : Int) := by
      rw [show (8 : Int) * (L.length : Int) - 31 = ((8 * L.length - 31 : Nat) : Int) by omega, Int.natCast_emod]
    have hp1 : at_ % (8 * L.length - 31) < 8 * L.length - 31 := Nat.mod_lt _ (by omega)
    generalize at_ % (8 * L.length - 31) = p at *
    have HR := Lib.hid hR'
    clear hR'
    go_wp2_with fail
    rw [hp0]
    have HP := Lib.hid hp0
    clear hp0
    go_loopw [10, 11] (fun i _ wr => ∃ r : Nat, r ≤ 32 ∧ i = .int .i64 r ∧ ∃ m, Ow wr w.heap.size 5 (.slice (some ⟨g, 0, none⟩) L.length cap) m ∧ Turned L m p t r ∧ Below w.heap.size w wr) (fun i _ _ => 32 - (intOf i).toNat)
    case atStart => exact ⟨0, by omega, rfl, L, o4, Turned.zero _ _ _, b3⟩
    case round =>
      obtain ⟨r, hr, rfl, m, ho, hT, hbr⟩ := hrel
      by_cases hlt : r < 32
      · have ha1 := and_one (t / 2 ^ r) (Nat.lt_of_le_of_lt (Nat.div_le_self _ _) ht)
        rw [Int.natCast_ediv, Int.natCast_pow] at ha1
        rw [show ((2 : Nat) : Int) = 2 from rfl] at ha1
        have hml := hT.1
        rcases Nat.mod_two_eq_zero_or_one (t / 2 ^ r) with hbit | hbit
        · have hT' := hT.skip hbit
          rw [hbit] at ha1
          have H := Lib.hid (And.intro hml hbit)
          clear hml hbit
          go_wp2
          go_roundw
          case rel => exact ⟨r + 1, by omega, by go_num, m, ho, hT', hbr⟩
          case measure => simp [intOf]; omega
        · have hT' := hT.turn hbit (by omega)
          rw [hbit] at ha1
          obtain ⟨y, hy⟩ : ∃ y, m[(p + r) / 8]? = some y := ⟨_, List.getElem?_eq_getElem (by omega)⟩
          have hat' := ho.at ((p + r) / 8) (by omega)
          have hyy : m[(p + r) / 8]'(by omega) = y := by rw [List.getElem?_eq_getElem (by omega)] at hy; exact Option.some.inj hy
          have c4 : wr.cell? ⟨g, (p + r) / 8, none⟩ = some (.int .u8 (y.toNat : Int)) := by rw [hat'.1, hyy]; rfl
          have c5 := hat'.2.1
          have i0 : (((p + r) / 8 : Nat) : Int) < (L.length : Int) := by omega
          have hmm : Turned L (m.set ((p + r) / 8) (UInt8.ofNat (y.toNat ^^^ 2 ^ ((p + r) % 8)))) p t (r + 1) := by
            have e := hT'
            unfold turnL at e
            rw [hy] at e
            exact e
          have H := Lib.hid (And.intro hml hbit)
          clear hml hbit hat' hyy hy hT'
          go_wp2
          go_roundw
          case rel =>
            refine ⟨r + 1, by omega, by go_num, m.set ((p + r) / 8) (UInt8.ofNat (y.toNat ^^^ 2 ^ ((p + r) % 8))), ?_, hmm, hbr.setCell hg _⟩
            rw [turn_val y _ (Nat.mod_lt _ (by decide))]
            exact ho.set _ _
          case measure => simp [intOf]; omega
      · obtain rfl : r = 32 := by omega
        have hfin := turned_right h4 HR.out ht (by omega) hT
        go_wp2_with fail
        refine (right_b _ ho.bs).mono ?_
        rintro e w5 ⟨he, b5⟩
        rw [hfin] at he
        subst he
        have hd : ((t : Int) == 0) = decide (t = 0) := by
          by_cases h0 : t = 0
          · subst h0; rfl
          · rw [decide_eq_false h0, beq_eq_false_iff_ne]; omega
        go_wp2_with fail
        refine (works_any _).mono ?_
        rintro e w6 ⟨rfl, b6⟩
        go_wp2
        go_ret
        have c5 := hbr.trans (b5.mono hbr.size)
        exact ⟨rfl, c5.trans (b6.mono c5.size)⟩
  · go_enter Try.func6, Try.ntmps6
    go_wp2_with fail
    refine (vast_yes _ hb (by omega)).mono ?_
    rintro e w1 ⟨rfl, rfl⟩
    go_wp2_with fail
    refine (works_any _).mono ?_
    rintro e w4 ⟨rfl, b4⟩
    go_wp2
    go_ret
    exact ⟨rfl, b4⟩
end Go.Proofs.Ytgedaoodldohkaa
