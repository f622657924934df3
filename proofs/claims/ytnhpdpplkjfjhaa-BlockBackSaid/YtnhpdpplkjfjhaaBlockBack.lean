/- The walk of BlockBack: it returns true and writes nothing that was there; no condition. -/
import Derived.Test.YtnhpdpplkjfjhaaBlkTurned
namespace Go.Proofs.Ytnhpdpplkjfjhaa
open Go.RowKit

set_option maxRecDepth 1000000 in
set_option maxHeartbeats 1000000 in
theorem back_vast {b r : Value} {l lr : List UInt8} (m at_ t : Nat) (w : World) (hb : Bs w b l) (hr : Bs w r lr) (h : 505 < l.length ∨ 2000 < lr.length) :
    Calls Try.prog 5 #[.int .u8 (m : Int), b, r, .int .u16 (at_ : Int), .int .u32 (t : Int)] w (Yes w) := by
  obtain ⟨pa, pc, rfl, hb⟩ := hb.shape
  obtain ⟨qa, qc, rfl, hr⟩ := hr.shape
  by_cases h1 : 505 < l.length
  · have hI : (505 : Int) < (l.length : Int) := by omega
    clear h h1
    go_enter Try.func5, Try.ntmps5
    go_wp2_with fail
    refine (works_any _).mono ?_
    rintro e w4 ⟨rfl, b4⟩
    go_wp2
    go_ret
    exact ⟨rfl, b4⟩
  · have hI : ¬ (505 : Int) < (l.length : Int) := by omega
    have hJ : (2000 : Int) < (lr.length : Int) := by omega
    clear h h1
    go_enter Try.func5, Try.ntmps5
    go_wp2_with fail
    refine (works_any _).mono ?_
    rintro e w4 ⟨rfl, b4⟩
    go_wp2
    go_ret
    exact ⟨rfl, b4⟩

set_option maxRecDepth 1000000 in
set_option maxHeartbeats 1000000 in
theorem back_zero {b r : Value} {l lr : List UInt8} (at_ t : Nat) (w : World) (hb : Bs w b l) (hr : Bs w r lr) (h1 : l.length ≤ 505) (h2 : lr.length ≤ 2000) :
    Calls Try.prog 5 #[.int .u8 0, b, r, .int .u16 (at_ : Int), .int .u32 (t : Int)] w (Yes w) := by
  obtain ⟨pa, pc, rfl, hb⟩ := hb.shape
  obtain ⟨qa, qc, rfl, hr⟩ := hr.shape
  have hI : ¬ (505 : Int) < (l.length : Int) := by omega
  have hJ : ¬ (2000 : Int) < (lr.length : Int) := by omega
  go_enter Try.func5, Try.ntmps5
  go_wp2_with fail
  refine (blkSeal_zero _ hb).mono ?_
  rintro e w1 ⟨rfl, rfl⟩
  have b0 := Below.refl w.heap.size w
  go_wp2_with fail
  refine (blkOpen_any _ (hr)).mono ?_
  rintro e w6 ⟨v6, he, o6, b6⟩
  have b6' := b0.trans (b6.mono b0.size)
  by_cases hz : (openV lr).2.2 = 0
  · obtain ⟨z1, z2, z3⟩ := seal_open hz
    rw [hz] at he
    subst he
    have Z := Lib.hid (And.intro z1 (And.intro z2 z3))
    clear z1 z2 z3 hz
    generalize (openV lr).1 = zk at *
    generalize (openV lr).2.1 = zl at *
    go_wp2_with fail
    refine (blkSeal_ok zk _ o6.bs Z.out.2.1 Z.out.2.2).mono ?_
    rintro e w7 ⟨v7, rfl, o7, b7⟩
    rw [← Z.out.1] at o7
    have b7' := b6'.trans (b7.mono b6'.size)
    have k1 := run_string_bs bt (d := 9) Try.underlying9 w7 o7.bs
    have k2 := run_string_bs bt (d := 9) Try.underlying9 w7 (hr.below b7')
    clear o6 b6 b6' b7 o7 Z
    go_wp2_with fail
    refine (works_any _).mono ?_
    rintro e w8 ⟨rfl, b8⟩
    go_wp2
    go_ret
    exact ⟨rfl, b7'.trans (b8.mono b7'.size)⟩
  · obtain ⟨z1, z2, z3⟩ := openV_zero hz
    rw [z1] at he
    rw [z2] at o6
    clear z1 z2 hz
    obtain ⟨p6, c6, hv6, -⟩ := o6.bs.shape
    rw [show (([] : List UInt8).length) = 0 from rfl] at hv6
    subst hv6
    clear o6 b6
    rcases z3 with z3 | z3
    · rw [z3] at he
      subst he
      clear z3
      go_wp2_with fail
      refine (works_any _).mono ?_
      rintro e w8 ⟨rfl, b8⟩
      go_wp2
      go_ret
      exact ⟨rfl, b6'.trans (b8.mono b6'.size)⟩
    · rw [z3] at he
      subst he
      clear z3
      go_wp2_with fail
      refine (works_any _).mono ?_
      rintro e w8 ⟨rfl, b8⟩
      go_wp2
      go_ret
      exact ⟨rfl, b6'.trans (b8.mono b6'.size)⟩

theorem same_turned {L m : List UInt8} {p t : Nat} (h : Turned L m p t 32) (h0 : t = 0) : m = L := by
  subst h0
  refine leN_inj _ _ h.1 ?_
  rw [h.2]
  simp

theorem open_turned {L m : List UInt8} {p t : Nat} (hl : L.length = 512) (hr : rightB L = true) (ht : t < 4294967296) (hp : p ≤ 4096) (h : Turned L m p t 32) (h0 : t ≠ 0) : openV m = (0, [], 9) := by
  apply openV_spoilt
  rintro ⟨-, h1⟩
  rw [turned_right (by omega) hr ht (by omega) h, decide_eq_false h0] at h1
  cases h1

set_option maxRecDepth 1000000 in
set_option maxHeartbeats 1000000 in
theorem back_one {b r : Value} {l lr : List UInt8} (k : UInt8) (at_ t : Nat) (w : World) (hb : Bs w b l) (hr : Bs w r lr) (h1 : l.length ≤ 505) (h2 : lr.length ≤ 2000) (h0 : k ≠ 0) (hat : at_ < 65536) (ht : t < 4294967296) :
    Calls Try.prog 5 #[.int .u8 (k.toNat : Int), b, r, .int .u16 (at_ : Int), .int .u32 (t : Int)] w (Yes w) := by
  obtain ⟨pa, pc, rfl, hb⟩ := hb.shape
  obtain ⟨qa, qc, rfl, hr⟩ := hr.shape
  have hI : ¬ (505 : Int) < (l.length : Int) := by omega
  have hJ : ¬ (2000 : Int) < (lr.length : Int) := by omega
  have hk : ((k.toNat : Int) == 0) = false := by
    rw [beq_eq_false_iff_ne]
    exact toNat_ne h0
  have hk2 : ((k.toNat : Int) != 0) = true := bne_iff_ne.2 (toNat_ne h0)
  have hL := sealL_length (k := k) h1
  have HO := Lib.hid (open_seal h0 h1)
  have HR := Lib.hid (sealL_right k l)
  have hp0 : (at_ : Int) % 4065 = ((at_ % 4065 : Nat) : Int) := by omega
  have hp1 : at_ % 4065 < 4065 := Nat.mod_lt _ (by decide)
  generalize at_ % 4065 = p at *
  have HP := Lib.hid hp0
  clear hp0
  have hat2 : (at_ : Int) < 65536 := by omega
  go_enter Try.func5, Try.ntmps5
  go_wp2_with fail
  refine (blkSeal_ok k _ hb h0 h1).mono ?_
  rintro e w1 ⟨v1, rfl, o1, b1⟩
  generalize sealL k l = L at *
  obtain ⟨g, c, rfl, hg⟩ := o1.form (by omega)
  rw [hL] at o1 ⊢
  have HL := Lib.hid hL
  clear hL
  go_wp2_with fail
  refine (blkOpen_any _ o1.bs).mono ?_
  rintro e w2 ⟨v2, he, o2, b2⟩
  rw [HO.out] at he o2
  subst he
  have b2' := b1.trans (b2.mono b1.size)
  have o1' := o1.below b2
  have k1 := run_string_bs bt (d := 9) Try.underlying9 w2 o2.bs
  have k2 := run_string_bs bt (d := 9) Try.underlying9 w2 (hb.below b2')
  clear o1 b1 b2
  go_wp2_with fail
  rw [HP.out]
  clear k1 k2 o2
  go_loopw [17] (fun i wr => ∃ r : Nat, r ≤ 32 ∧ i = .int .i64 r ∧ ∃ m, Ow wr w.heap.size 39 (.slice (some ⟨g, 0, none⟩) 512 c) m ∧ Turned L m p t r ∧ Below w.heap.size w wr) (fun i _ => 32 - (intOf i).toNat)
  case atStart => exact ⟨0, by omega, rfl, L, o1', Turned.zero _ _ _, b2'⟩
  case round =>
    obtain ⟨r, hr32, rfl, m, ho, hT, hbr⟩ := hrel
    clear o1' b2'
    by_cases hlt : r < 32
    · have ha1 := and_one (t / 2 ^ r) (Nat.lt_of_le_of_lt (Nat.div_le_self _ _) ht)
      rw [Int.natCast_ediv, Int.natCast_pow] at ha1
      rw [show ((2 : Nat) : Int) = 2 from rfl] at ha1
      have hml : m.length = 512 := hT.1.trans HL.out
      rcases Nat.mod_two_eq_zero_or_one (t / 2 ^ r) with hbit | hbit
      · have hT' := hT.skip hbit
        rw [hbit] at ha1
        have H := Lib.hid (And.intro hml hbit)
        clear hml hbit
        go_wp2
        go_roundw
        case rel => exact ⟨r + 1, by omega, by go_num, m, ho, hT', hbr⟩
        case measure => simp [intOf]; omega
      · have hT' := hT.turn hbit (by omega)
        rw [hbit] at ha1
        obtain ⟨y, hy⟩ : ∃ y, m[(p + r) / 8]? = some y := ⟨_, List.getElem?_eq_getElem (by omega)⟩
        have hat' := ho.at ((p + r) / 8) (by omega)
        have hyy : m[(p + r) / 8]'(by omega) = y := by rw [List.getElem?_eq_getElem (by omega)] at hy; exact Option.some.inj hy
        have c4 : wr.cell? ⟨g, (p + r) / 8, none⟩ = some (.int .u8 (y.toNat : Int)) := by rw [hat'.1, hyy]; rfl
        have c5 := hat'.2.1
        have i0 : (((p + r) / 8 : Nat) : Int) < 512 := by omega
        have hmm : Turned L (m.set ((p + r) / 8) (UInt8.ofNat (y.toNat ^^^ 2 ^ ((p + r) % 8)))) p t (r + 1) := by
          have e := hT'
          unfold turnL at e
          rw [hy] at e
          exact e
        have H := Lib.hid (And.intro hml hbit)
        clear hml hbit hat' hyy hy hT'
        go_wp2
        go_roundw
        case rel =>
          refine ⟨r + 1, by omega, by go_num, m.set ((p + r) / 8) (UInt8.ofNat (y.toNat ^^^ 2 ^ ((p + r) % 8))), ?_, hmm, hbr.setCell hg _⟩
          rw [turn_val y _ (Nat.mod_lt _ (by decide))]
          exact ho.set _ _
        case measure => simp [intOf]; omega
    · obtain rfl : r = 32 := by omega
      by_cases hz0 : t = 0
      · have hmL := same_turned hT hz0
        subst hz0
        rw [hmL] at ho
        clear hT hmL
        go_wp2_with fail
        refine (blkOpen_any _ ho.bs).mono ?_
        rintro e w5 ⟨v5, he, o5, b5⟩
        rw [HO.out] at he
        subst he
        have b5' := hbr.trans (b5.mono hbr.size)
        clear o5 b5 hbr ho
        go_wp2_with fail
        refine (blkOpen_any _ (hr.below b5')).mono ?_
        rintro e w6 ⟨v6, he, o6, b6⟩
        have b6' := b5'.trans (b6.mono b5'.size)
        by_cases hz : (openV lr).2.2 = 0
        · obtain ⟨z1, z2, z3⟩ := seal_open hz
          rw [hz] at he
          subst he
          have Z := Lib.hid (And.intro z1 (And.intro z2 z3))
          clear z1 z2 z3 hz
          generalize (openV lr).1 = zk at *
          generalize (openV lr).2.1 = zl at *
          go_wp2_with fail
          refine (blkSeal_ok zk _ o6.bs Z.out.2.1 Z.out.2.2).mono ?_
          rintro e w7 ⟨v7, rfl, o7, b7⟩
          rw [← Z.out.1] at o7
          have b7' := b6'.trans (b7.mono b6'.size)
          have k1 := run_string_bs bt (d := 9) Try.underlying9 w7 o7.bs
          have k2 := run_string_bs bt (d := 9) Try.underlying9 w7 (hr.below b7')
          clear o6 b6 b6' b7 o7 Z
          go_wp2_with fail
          refine (works_any _).mono ?_
          rintro e w8 ⟨rfl, b8⟩
          go_wp2
          go_ret
          exact ⟨rfl, b7'.trans (b8.mono b7'.size)⟩
        · obtain ⟨z1, z2, z3⟩ := openV_zero hz
          rw [z1] at he
          rw [z2] at o6
          clear z1 z2 hz
          obtain ⟨p6, c6, hv6, -⟩ := o6.bs.shape
          rw [show (([] : List UInt8).length) = 0 from rfl] at hv6
          subst hv6
          clear o6 b6
          rcases z3 with z3 | z3
          · rw [z3] at he
            subst he
            clear z3
            go_wp2_with fail
            refine (works_any _).mono ?_
            rintro e w8 ⟨rfl, b8⟩
            go_wp2
            go_ret
            exact ⟨rfl, b6'.trans (b8.mono b6'.size)⟩
          · rw [z3] at he
            subst he
            clear z3
            go_wp2_with fail
            refine (works_any _).mono ?_
            rintro e w8 ⟨rfl, b8⟩
            go_wp2
            go_ret
            exact ⟨rfl, b6'.trans (b8.mono b6'.size)⟩
      · have hmo := open_turned HL.out HR.out ht (by omega) hT hz0
        have htI : ((t : Int) == 0) = false := by rw [beq_eq_false_iff_ne]; omega
        clear hT
        go_wp2_with fail
        refine (blkOpen_any _ ho.bs).mono ?_
        rintro e w5 ⟨v5, he, o5, b5⟩
        rw [hmo] at he
        subst he
        have b5' := hbr.trans (b5.mono hbr.size)
        clear o5 b5 hbr ho hmo
        go_wp2_with fail
        refine (blkOpen_any _ (hr.below b5')).mono ?_
        rintro e w6 ⟨v6, he, o6, b6⟩
        have b6' := b5'.trans (b6.mono b5'.size)
        by_cases hz : (openV lr).2.2 = 0
        · obtain ⟨z1, z2, z3⟩ := seal_open hz
          rw [hz] at he
          subst he
          have Z := Lib.hid (And.intro z1 (And.intro z2 z3))
          clear z1 z2 z3 hz
          generalize (openV lr).1 = zk at *
          generalize (openV lr).2.1 = zl at *
          go_wp2_with fail
          refine (blkSeal_ok zk _ o6.bs Z.out.2.1 Z.out.2.2).mono ?_
          rintro e w7 ⟨v7, rfl, o7, b7⟩
          rw [← Z.out.1] at o7
          have b7' := b6'.trans (b7.mono b6'.size)
          have k1 := run_string_bs bt (d := 9) Try.underlying9 w7 o7.bs
          have k2 := run_string_bs bt (d := 9) Try.underlying9 w7 (hr.below b7')
          clear o6 b6 b6' b7 o7 Z
          go_wp2_with fail
          refine (works_any _).mono ?_
          rintro e w8 ⟨rfl, b8⟩
          go_wp2
          go_ret
          exact ⟨rfl, b7'.trans (b8.mono b7'.size)⟩
        · obtain ⟨z1, z2, z3⟩ := openV_zero hz
          rw [z1] at he
          rw [z2] at o6
          clear z1 z2 hz
          obtain ⟨p6, c6, hv6, -⟩ := o6.bs.shape
          rw [show (([] : List UInt8).length) = 0 from rfl] at hv6
          subst hv6
          clear o6 b6
          rcases z3 with z3 | z3
          · rw [z3] at he
            subst he
            clear z3
            go_wp2_with fail
            refine (works_any _).mono ?_
            rintro e w8 ⟨rfl, b8⟩
            go_wp2
            go_ret
            exact ⟨rfl, b6'.trans (b8.mono b6'.size)⟩
          · rw [z3] at he
            subst he
            clear z3
            go_wp2_with fail
            refine (works_any _).mono ?_
            rintro e w8 ⟨rfl, b8⟩
            go_wp2
            go_ret
            exact ⟨rfl, b6'.trans (b8.mono b6'.size)⟩

theorem blockBack_any {b r : Value} {l lr : List UInt8} (m at_ t : Nat) (w : World) (hb : Bs w b l) (hr : Bs w r lr) (hm : m < 256) (hat : at_ < 65536) (ht : t < 4294967296) :
    Calls Try.prog 5 #[.int .u8 (m : Int), b, r, .int .u16 (at_ : Int), .int .u32 (t : Int)] w (Yes w) := by
  by_cases h : 505 < l.length ∨ 2000 < lr.length
  · exact back_vast m at_ t w hb hr h
  · obtain ⟨k, hk⟩ : ∃ k : UInt8, k.toNat = m := ⟨UInt8.ofNat m, by rw [UInt8.toNat_ofNat']; omega⟩
    subst hk
    by_cases h0 : k = 0
    · subst h0
      exact back_zero at_ t w hb hr (by omega) (by omega)
    · exact back_one k at_ t w hb hr (by omega) (by omega) h0 hat ht
end Go.Proofs.Ytnhpdpplkjfjhaa
