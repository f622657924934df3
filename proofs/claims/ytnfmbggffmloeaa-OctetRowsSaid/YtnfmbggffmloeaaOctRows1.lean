/- The walk of OctetRows: it returns true and writes nothing that was there; no condition. -/
import Derived.Test.YtnfmbggffmloeaaOctRows0
namespace Go.Proofs.Ytnfmbggffmloeaa
open Go.RowKit

/-- Rows of two element types are two blocks. -/
theorem ow_ne {w : World} {b1 b2 n : Nat} {e1 e2 : TypeId} {v v' : Value} {l : List UInt8} {xs : List Value} {size : Nat} (h : Ow w b1 e1 v l) (h' : w.ownsRow b2 e2 size v' n xs) (hne : e1 ≠ e2) : v.ownBlock = none ∨ v.ownBlock ≠ v'.ownBlock := by
  rcases h.2 with ⟨rfl, _⟩ | ⟨g, cap, cur, rfl, _, hg, _⟩
  · exact .inl rfl
  rcases h'.2 with ⟨rfl, _⟩ | ⟨g', cap', cur', rfl, _, hg', _⟩
  · exact .inr fun e => by cases e
  · refine .inr fun e => hne ?_
    have e' : g = g' := Option.some.inj e
    subst e'
    rw [hg] at hg'
    simp only [Option.some.injEq, Obj.cells.injEq] at hg'
    exact hg'.2.1

theorem ownsRow_below {w w' : World} {base n size : Nat} {e : TypeId} {v : Value} {xs : List Value} (h : w.ownsRow base e size v n xs) (hb : Below w.heap.size w w') : w'.ownsRow base e size v n xs := by
  refine ⟨h.1, ?_⟩
  rcases h.2 with h' | ⟨g, cap, cur, hv, hbg, hg, r⟩
  · exact .inl h'
  · refine .inr ⟨g, cap, cur, hv, hbg, ?_, r⟩
    have hlt : g < w.heap.size := (Array.getElem?_eq_some_iff.1 hg).1
    rw [hb.block g hlt]; exact hg

/-- The ends of the first r byte strings, as the cells of a row. -/
def endVs (ls : List (List UInt8)) (r : Nat) : List Value := (List.range r).map fun i => .int .i64 (encE ls (i + 1) : Nat)
theorem endVs_succ (ls : List (List UInt8)) (r : Nat) : endVs ls (r + 1) = endVs ls r ++ [.int .i64 (encE ls (r + 1) : Nat)] := by
  simp [endVs, List.range_succ]

theorem ends_cell {w : World} {base ge ce : Nat} {ls : List (List UInt8)} {r : Nat} (h : w.ownsRow base 3 1 (.slice (some ⟨ge, 0, none⟩) ls.length ce) ls.length (endVs ls ls.length)) (hr : r < ls.length) :
    w.cell? ⟨ge, r, none⟩ = some (.int .i64 (encE ls (r + 1) : Nat)) := by
  rw [World.ownsRow.cellAt h r (by omega)]
  simp [endVs, hr]

theorem ends_open {w : World} {base : Nat} {v : Value} {ls : List (List UInt8)} (h : w.ownsRow base 3 1 v ls.length (endVs ls ls.length)) (hne : 0 < ls.length) : ∃ g cap, v = .slice (some ⟨g, 0, none⟩) ls.length cap ∧ g < w.heap.size := by
  rcases h.2 with ⟨_, h0⟩ | ⟨g, cap, cur, hv, hb, hg, _⟩
  · omega
  · exact ⟨g, cap, hv, (Array.getElem?_eq_some_iff.1 hg).1⟩

theorem Try.info3 : (Try.prog.info? 3).map (fun i => (i.zero, i.size, i.bytes)) = some (some (.int .i64 0), 1, 8) := by kernel_rfl

set_option maxRecDepth 100000 in
set_option maxHeartbeats 400000 in
theorem octetRows_many {v : Value} {ls : List (List UInt8)} (n c : Int) (w : World) (hl : Bss w v ls) (nv : 40 < ls.length) :
    Calls Try.prog 8 #[v, .int .u64 n, .int .u16 c] w (Yes w) := by
  obtain ⟨a, cap, rfl, hl⟩ := hl.shape
  go_enter Try.func8, Try.ntmps8
  go_wp2_with fail
  refine (works_any _).mono ?_
  rintro e w3 ⟨rfl, b3⟩
  go_wp2
  go_ret
  exact ⟨rfl, b3⟩

set_option maxRecDepth 100000 in
set_option maxHeartbeats 1000000 in
theorem octetRows_go {v : Value} {ls : List (List UInt8)} (n c : Nat) (w : World) (hl : Bss w v ls) (n1 : ls.length ≤ 40) (hn : n < 18446744073709551616) (hc : c < 65536) :
    Calls Try.prog 8 #[v, .int .u64 (n : Int), .int .u16 (c : Int)] w (Yes w) := by
  obtain ⟨a, cap, rfl, hl⟩ := hl.shape
  obtain ⟨i0, hi, hz0, hz1, hz2⟩ := info_parts Try.info3
  go_enter Try.func8, Try.ntmps8
  go_wp2_with fail
  go_loopw [7, 8, 9] (fun bv ev i wr => ∃ r : Nat, ∃ ab cb, r ≤ ls.length ∧ i = .int .i64 r ∧ bv = .slice ab (encE ls r) cb ∧ Ow wr w.heap.size 5 bv (encL (ls.take r)) ∧ wr.ownsRow w.heap.size 3 1 ev r (endVs ls r) ∧ (∀ i s, ls[i]? = some s → i < r → s.length ≤ 300) ∧ Below w.heap.size w wr) (fun _ _ i _ => ls.length - (intOf i).toNat)
  case atStart => exact ⟨0, none, 0, Nat.zero_le _, rfl, rfl, World.ownsRow_nil _ _ _ _, World.ownsRow_nil _ _ _ _, fun _ _ _ h => absurd h (Nat.not_lt_zero _), Below.refl _ _⟩
  case round =>
    obtain ⟨r, ab, cb, hr, rfl, rfl, hob, hoe, hsm, hbr⟩ := hrel
    have Hsm := Lib.hid hsm
    clear hsm
    by_cases hlt : r < ls.length
    · obtain ⟨s, hs⟩ : ∃ s, ls[r]? = some s := ⟨_, List.getElem?_eq_getElem hlt⟩
      obtain ⟨b0, o0, cap0, e0, q0, hb0, hcells⟩ := hl.open (by omega)
      simp only [Value.slice.injEq] at e0
      obtain ⟨rfl, _, rfl⟩ := e0
      obtain ⟨as1, cs1, hcell, hbs⟩ := hcells r s hs
      have hcx := (hbr.cell (p := ⟨b0, o0 + r, none⟩) (by exact hb0)).trans hcell
      have hbs1 := hbs.below hbr
      have Hs := Lib.hid hs
      clear hs hcells hcell
      by_cases h300 : 300 < s.length
      · go_wp2_with fail
        refine (works_any _).mono ?_
        rintro e w3 ⟨rfl, b3⟩
        go_wp2
        go_ret
        exact ⟨rfl, hbr.trans (b3.mono hbr.size)⟩
      · have hE := encE_bound ls r Hsm.out
        have hEs := encE_succ Hs.out
        have hsum : (putsL (encL (ls.take r)) s).length = encE ls r + 2 + s.length := by rw [← encL_succ Hs.out]; exact hEs
        have HE := Lib.hid hEs
        have HS := Lib.hid hsum
        clear hEs hsum
        go_wp2_with fail
        refine (putBytes_any _ hob.bs hbs1 (by show encE ls r ≤ _; omega) (by omega)).mono ?_
        rintro e w2 ⟨v2, rfl, o2, b2⟩
        have b02 := hbr.trans (b2.mono hbr.size)
        have hcx2 := (b2.cell (p := ⟨b0, o0 + r, none⟩) (by have := hbr.size; show b0 < _; omega)).trans hcx
        obtain ⟨a2, c2, hv2, hb2⟩ := o2.bs.shape
        rw [HS.out] at hv2 hb2
        subst hv2
        have hoe2 := ownsRow_below hoe b2
        clear hcx
        have h1c : ∀ u ∈ [Value.int .i64 ((encE ls r : Int) + 2 + (s.length : Int))], u.oneCell' = true := by intro u hu; simp at hu; subst hu; rfl
        have h63 : r + 1 ≤ maxLen := by unfold maxLen; omega
        have hby : (r + 1) * 8 ≤ 140737488355328 := by omega
        have hz3 : w.heap.size ≤ (w2.alloc (.cells #[Value.int .i64 ((encE ls r : Int) + 2 + (s.length : Int))] 3)).heap.size := by have := b02.size; simp; omega
        have oc3 : Ow (w2.alloc (.cells #[Value.int .i64 ((encE ls r : Int) + 2 + (s.length : Int))] 3)) w.heap.size 5 (.slice a2 (encE ls r + 2 + s.length) c2) (putsL (encL (ls.take r)) s) := (o2.mono hbr.size).below ((Below.refl _ _).alloc (Nat.le_refl _) _)
        have hoe3 := hoe2.alloc (.cells #[Value.int .i64 ((encE ls r : Int) + 2 + (s.length : Int))] 3)
        go_wp2_with (at_builtin; refine wpList_append_own _ rfl _ _ 44 rfl w.heap.size 3 i0 (.int .i64 0) 1 8 Try.underlying44 hi hz0 hz1 hz2 rfl (by decide) _ _ _ rfl hoe3 ⟨w2.heap.size, 0, none⟩ 1 1 [.int .i64 ((encE ls r : Int) + 2 + (s.length : Int))] rfl rfl (cell_one_new _ _ _) h1c h63 hby hz3 ?_; intro v3 w3 hoe4 hg4 _)
        go_roundw
        case rel =>
          refine ⟨r + 1, a2, c2, by omega, by go_num, by rw [HE.out], ?_, ?_, fun i s' hi' hlt' => ?_, ?_⟩
          · rw [encL_succ Hs.out]
            exact oc3.grown hg4 (ow_ne oc3 hoe3 (by decide))
          · rw [endVs_succ, HE.out]
            simpa using hoe4
          · rcases Nat.lt_succ_iff_lt_or_eq.1 hlt' with h | rfl
            · exact Hsm.out i s' hi' h
            · rw [Hs.out] at hi'
              cases hi'
              omega
          · exact (b02.alloc (by have := b02.size; omega) _).grown hg4 hz3 fun j hj => (World.ownsRow.lt hoe3 j hj).1
        case measure => simp [intOf]; omega
    · obtain rfl : r = ls.length := by omega
      have hE := encE_bound ls ls.length Hsm.out
      rw [List.take_length] at hob
      have hlenE : (encL ls).length = encE ls ls.length := (encE_all ls).symm
      have hp : putL (encL ls) n 8 = encL ls ++ beL n 8 := rfl
      have hlenT : (encL ls ++ beL n 8).length = encE ls ls.length + 8 := by rw [List.length_append, beL_length, hlenE]
      have HL := Lib.hid hlenE
      have HP := Lib.hid hp
      have HT := Lib.hid hlenT
      clear hlenE hp hlenT
      go_wp2_with fail
      refine (put_any n 8 _ hob.bs (by rw [HL.out]; omega)).mono ?_
      rintro e w2 ⟨v2, rfl, o2, b2⟩
      rw [HP.out] at o2
      have b02 := hbr.trans (b2.mono hbr.size)
      have hoe2 := ownsRow_below hoe b2
      obtain ⟨a2, c2, hv2, hb2⟩ := o2.bs.shape
      rw [HT.out] at hv2 hb2
      subst hv2
      obtain ⟨K, hK, hKle⟩ : ∃ K : Nat, (c : Int) % ((encE ls ls.length : Int) + 8 + 1) = K ∧ K ≤ encE ls ls.length + 8 := ⟨c % (encE ls ls.length + 8 + 1), by simp, by have := Nat.mod_lt c (show 0 < encE ls ls.length + 8 + 1 by omega); omega⟩
      have HK := Lib.hid hK
      clear hK
      go_wp2_with fail
      rw [HK.out]
      go_loopw [13, 14] (fun p i wr => ∃ r : Nat, r ≤ ls.length ∧ i = .int .i64 r ∧ p = .int .i64 (encE ls r : Nat) ∧ encE ls r ≤ K ∧ Ow wr w.heap.size 5 (.slice a2 (encE ls ls.length + 8) c2) (encL ls ++ beL n 8) ∧ wr.ownsRow w.heap.size 3 1 u8 ls.length (endVs ls ls.length) ∧ Below w.heap.size w wr) (fun _ i _ => ls.length - (intOf i).toNat)
      case atStart => exact ⟨0, Nat.zero_le _, rfl, rfl, by simp [encE, encL], o2.mono hbr.size, hoe2, b02⟩
      case round =>
        obtain ⟨r, hr', rfl, rfl, hrK, hob, hoe, hbq⟩ := hrel
        by_cases hlt2 : r < ls.length
        · obtain ⟨s, hs⟩ : ∃ s, ls[r]? = some s := ⟨_, List.getElem?_eq_getElem hlt2⟩
          have h300 := Hsm.out r s hs hlt2
          obtain ⟨ge, ce, hev, hge⟩ := ends_open hoe (by omega)
          subst hev
          obtain ⟨b0, o0, cap0, e0, q0, hb0, hcells⟩ := hl.open (by omega)
          simp only [Value.slice.injEq] at e0
          obtain ⟨rfl, _, rfl⟩ := e0
          obtain ⟨as1, cs1, hcell, hbs⟩ := hcells r s hs
          have HC := Lib.hid hcells
          have Hs := Lib.hid hs
          clear hcells hs
          obtain ⟨v9, hsl, hb9⟩ := run_slice_to_bs bt wr hob.bs .i64 K (by rw [HT.out]; exact hKle)
          have hT9 : ((encL ls ++ beL n 8).take K).length ≤ 1073741824 := by rw [List.length_take, HT.out]; omega
          by_cases hcut : K < encE ls (r + 1)
          · have hf := tb_cut (beL n 8) Hs.out h300 hrK hcut (by rw [HT.out]; exact hKle)
            have HF := Lib.hid hf
            clear hf
            go_wp2_with fail
            refine (takeBytes_any _ _ hb9 hT9).mono ?_
            rintro e w3 ⟨v3, he, o3, b3⟩
            rw [HF.out.2.1, HF.out.2.2] at he
            rw [HF.out.1] at o3
            subst he
            obtain ⟨a3, c3, hv3, _⟩ := o3.bs.shape
            simp only [List.length_nil] at hv3
            subst hv3
            have b03 := hbq.trans (b3.mono hbq.size)
            have hec := ends_cell (ownsRow_below hoe b3) hlt2
            go_wp2_with fail
            refine (works_any _).mono ?_
            rintro e w4 ⟨rfl, b4⟩
            go_wp2
            go_ret
            exact ⟨rfl, b03.trans (b4.mono b03.size)⟩
          · have hf := tb_whole (beL n 8) Hs.out h300 (by omega : encE ls (r + 1) ≤ K)
            have HF := Lib.hid hf
            clear hf
            go_wp2_with fail
            refine (takeBytes_any _ _ hb9 hT9).mono ?_
            rintro e w3 ⟨v3, he, o3, b3⟩
            rw [HF.out.2.1, HF.out.2.2] at he
            rw [HF.out.1] at o3
            subst he
            have b03 := hbq.trans (b3.mono hbq.size)
            have hec := ends_cell (ownsRow_below hoe b3) hlt2
            have hcx := (b03.cell (p := ⟨b0, o0 + r, none⟩) (by exact hb0)).trans hcell
            have hbs3 := hbs.below b03
            have k1 := fun j => run_string_bs bt (d := 9) Try.underlying9 (w3.drewN j) (o3.bs.below (below_drewN (Below.refl _ _) j))
            have k2 := fun j => run_string_bs bt (d := 9) Try.underlying9 (w3.drewN j) (hbs3.below (below_drewN (Below.refl _ _) j))
            go_wp2
            go_quiet (fail)
            have o4 := o3.below (below_drewN (Below.refl w3.heap.size w3) nq)
            have b04 := below_drewN b03 nq
            have hEl := encE_bound ls (r + 1) fun i s' hi' _ => by
              rcases Nat.lt_or_ge i ls.length with h | h
              · exact Hsm.out i s' hi' h
              · rw [List.getElem?_eq_none h] at hi'; cases hi'
            clear hcx hec k1 k2
            go_wp2_with fail
            refine (after_any _ o4.bs (by omega)).mono ?_
            rintro e w5 ⟨v5, rfl, o5, b5⟩
            have b05 := b04.trans (b5.mono b04.size)
            have hs5 := (o4.below b5).bs
            go_wp2_with fail
            refine (order_any _ hs5 o5.bs).mono ?_
            rintro e w6 ⟨he, rfl⟩
            rw [cmp_after] at he
            subst he
            have hoe5 := (ownsRow_below hoe ((b3.trans (below_drewN (Below.refl _ _) nq)).trans (b5.mono b3.size)))
            have hob5 := hob.below ((b3.trans (below_drewN (Below.refl _ _) nq)).trans (b5.mono b3.size))
            by_cases hr0 : 0 < r
            · obtain ⟨r1, rfl⟩ : ∃ r1, r = r1 + 1 := ⟨r - 1, by omega⟩
              obtain ⟨s1, hs1⟩ : ∃ s1, ls[r1]? = some s1 := ⟨_, List.getElem?_eq_getElem (by omega)⟩
              obtain ⟨as2, cs2, hcell2, hbs2⟩ := HC.out r1 s1 hs1
              have hcx2 := (b05.cell (p := ⟨b0, o0 + r1, none⟩) (by exact hb0)).trans hcell2
              have hbs6 := hbs2.below b05
              clear hs1 hcell hcell2
              rcases cmp_three s s1 with hX | hX | hX
              · have hZ := cmp_after_le s s1 (by omega)
                have hZ' : (Lib.compareBytes (s ++ [0]) s1 == 1) = false := beq_eq_false_iff_ne.2 (by omega)
                have HX := Lib.hid hX
                clear hX
                go_wp2_with fail
                refine (order_any _ hs5 hbs6).mono ?_
                rintro e w6 ⟨he, rfl⟩
                rw [HX.out] at he
                subst he
                go_wp2_with fail
                refine (order_any _ o5.bs hbs6).mono ?_
                rintro e w6 ⟨rfl, rfl⟩
                go_wp2
                go_roundw
                case rel => exact ⟨r1 + 1 + 1, by omega, by go_num, rfl, by omega, hob5, hoe5, b05⟩
                case measure => simp [intOf]; omega
              all_goals
                have HX := Lib.hid hX
                clear hX
                go_wp2_with fail
                refine (order_any _ hs5 hbs6).mono ?_
                rintro e w6 ⟨he, rfl⟩
                rw [HX.out] at he
                subst he
                go_wp2
                go_roundw
                case rel => exact ⟨r1 + 1 + 1, by omega, by go_num, rfl, by omega, hob5, hoe5, b05⟩
                case measure => simp [intOf]; omega
            · have hr00 : ¬ (0 : Int) < r := by omega
              go_wp2
              go_roundw
              case rel => exact ⟨r + 1, by omega, by go_num, rfl, by omega, hob5, hoe5, b05⟩
              case measure => simp [intOf]; omega
        · obtain rfl : r = ls.length := by omega
          obtain ⟨v9, hsl, hb9⟩ := run_slice_to_bs bt wr hob.bs .i64 K (by rw [HT.out]; exact hKle)
          have hT9 : ((encL ls ++ beL n 8).take K).length ≤ 1073741824 := by rw [List.length_take, HT.out]; omega
          by_cases hcut : K < encE ls ls.length + 8
          · have HF := Lib.hid (takeL_cut ls n K hrK hcut)
            go_wp2_with fail
            refine (take_any _ _ _ hb9 hT9).mono ?_
            rintro e w3 ⟨he, b3⟩
            rw [HF.out.1, HF.out.2.1, HF.out.2.2] at he
            subst he
            have b03 := hbq.trans (b3.mono hbq.size)
            go_wp2_with fail
            refine (works_any _).mono ?_
            rintro e w4 ⟨rfl, b4⟩
            go_wp2
            go_ret
            exact ⟨rfl, b03.trans (b4.mono b03.size)⟩
          · have hKe : K = encE ls ls.length + 8 := by omega
            have hf := takeL_all ls n hn
            rw [← hKe] at hf
            have HF := Lib.hid hf
            have hcut' : ¬ (K : Int) < (encE ls ls.length : Int) + 8 := by omega
            clear hf hKe
            go_wp2_with fail
            refine (take_any _ _ _ hb9 hT9).mono ?_
            rintro e w3 ⟨he, b3⟩
            rw [HF.out.1, HF.out.2.1, HF.out.2.2] at he
            subst he
            have b03 := hbq.trans (b3.mono hbq.size)
            go_wp2_with fail
            refine (works_any _).mono ?_
            rintro e w4 ⟨rfl, b4⟩
            go_wp2
            go_ret
            exact ⟨rfl, b03.trans (b4.mono b03.size)⟩

theorem octetRows_any {v : Value} {ls : List (List UInt8)} (n c : Nat) (w : World) (hl : Bss w v ls) (hn : n < 18446744073709551616) (hc : c < 65536) :
    Calls Try.prog 8 #[v, .int .u64 (n : Int), .int .u16 (c : Int)] w (Yes w) := by
  rcases Nat.lt_or_ge 40 ls.length with q | q
  · exact octetRows_many n c w hl q
  · exact octetRows_go n c w hl q hn hc
end Go.Proofs.Ytnfmbggffmloeaa
