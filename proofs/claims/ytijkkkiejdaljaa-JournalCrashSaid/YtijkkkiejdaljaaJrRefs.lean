/- The document's answers for layer 5: Blocks, Right, Text, Same, and its journal's Free, Mark, Append, Forget; conditions: the sizes that each contract names. -/
import Derived.Test.YtijkkkiejdaljaaRowG
import Derived.Test.YtijkkkiejdaljaaJrWrites
import Derived.Test.YtijkkkiejdaljaaBlkAny
import Derived.Test.YtijkkkiejdaljaaHeldLast
namespace Go.Proofs.Ytijkkkiejdaljaa
open Go.RowKit

theorem refBlocks_any (n : Int) (w : World) (h2 : n ≤ 1099511627776) : Calls Try.prog 27 #[.int .i64 n] w fun e w' => e = .returned (.int .i64 (nBlocks n.toNat : Nat)) ∧ w = w' := by
  go_enter Try.func27, Try.ntmps27
  go_wp2
  go_loopw [3] (fun p wr => ∃ k : Nat, 1 ≤ k ∧ k ≤ nPieces n.toNat ∧ p = .int .i64 (k : Int) ∧ w = wr) (fun p _ => nPieces n.toNat - (intOf p).toNat)
  case atStart => exact ⟨1, by omega, nPieces_pos _, rfl, rfl⟩
  case round =>
    obtain ⟨k, hk1, hk, rfl, rfl⟩ := hrel
    have hub : (k : Int) ≤ 2290649225 := by have : nPieces n.toNat ≤ 2290649225 := (by unfold nPieces; omega); omega
    by_cases hlt : 480 * k < n.toNat
    · have hq : (k : Int) * 480 < n := by omega
      have hk2 : k + 1 ≤ nPieces n.toNat := by unfold nPieces; omega
      go_wp2
      go_roundw
      case rel => exact ⟨k + 1, by omega, hk2, by go_num, trivial⟩
      case measure => simp [intOf]; omega
    · have hq : n ≤ (k : Int) * 480 := by omega
      have hk2 : nBlocks n.toNat = k + 1 := by unfold nBlocks; have : nPieces n.toNat ≤ k := (by unfold nPieces; omega); omega
      have HK := Lib.hid hk2
      clear hk2
      go_wp2
      go_ret
      rw [HK.out]
      exact ⟨by go_num, by first | rfl | trivial⟩

/-- A text: so many bytes, of a letter, numbered. -/
def textL (n : Nat) (c : UInt8) : Bytes := (List.range n).map fun i => c + UInt8.ofNat (i % 7)
theorem textL_length (n : Nat) (c : UInt8) : (textL n c).length = n := by simp [textL]
theorem textL_set (n r : Nat) (c : UInt8) (h : r < n) : (textL r c ++ List.replicate (n - r) 0).set r (c + UInt8.ofNat (r % 7)) = textL (r + 1) c ++ List.replicate (n - (r + 1)) 0 := by
  rw [List.set_append_right _ _ (by rw [textL_length]; omega), textL_length, Nat.sub_self, show n - r = (n - (r + 1)) + 1 by omega, List.replicate_succ, List.set_cons_zero]
  unfold textL
  rw [List.range_succ, List.map_append, List.append_assoc]
  rfl
theorem text_val (c : UInt8) (r : Nat) : Value.int .u8 (((c.toNat : Int) + (r : Int) % 7) % 256) = bv (c + UInt8.ofNat (r % 7)) := by
  unfold bv
  congr 1
  rw [UInt8.toNat_add, UInt8.toNat_ofNat']
  omega

set_option maxHeartbeats 400000 in
theorem text_any (n : Nat) (c : UInt8) (w : World) (hn : n ≤ 1000000) : Calls Try.prog 10 #[.int .i64 (n : Int), .int .u8 (c.toNat : Int)] w (Gives w (textL n c)) := by
  obtain ⟨w1, hmk, o1, g1⟩ := run_zeros_bs bt w w.heap.size .i64 .i64 n (by omega) (Nat.le_refl _)
  have b1 : Below w.heap.size w w1 := (Below.refl _ _).grown g1 (Nat.le_refl _) (fun _ h => by cases h)
  have hmx : max (n : Int) 0 = n := by omega
  have H1 := Lib.hid (And.intro o1 b1)
  clear o1 g1 b1
  go_enter Try.func10, Try.ntmps10
  go_wp2
  have hcl := c.toNat_lt
  go_loopw [6] (fun i wr => ∃ r : Nat, r ≤ n ∧ i = .int .i64 (r : Int) ∧ Ow wr w.heap.size 5 (.slice (some ⟨w.heap.size, 0, none⟩) n n) (textL r c ++ List.replicate (n - r) 0) ∧ Below w.heap.size w wr) (fun i _ => n - (intOf i).toNat)
  case atStart => exact ⟨0, by omega, rfl, by rw [show textL 0 c = [] from rfl, List.nil_append, Nat.sub_zero]; exact H1.out.1, H1.out.2⟩
  case round =>
    obtain ⟨r, hr, rfl, om, hb⟩ := hrel
    by_cases hlt : r < n
    · have hlt' : (r : Int) < (n : Int) := by omega
      have hat := om.at r (by rw [List.length_append, textL_length, List.length_replicate]; omega)
      obtain ⟨y, hy⟩ : ∃ y, (textL r c ++ List.replicate (n - r) 0)[r]'(by rw [List.length_append, textL_length, List.length_replicate]; omega) = y := ⟨_, rfl⟩
      rw [hy] at hat
      have c4 := hat.1
      have c5 := hat.2.1
      have HM := Lib.hid (And.intro om (And.intro hb hy))
      have htv := text_val c r
      have HT := Lib.hid htv
      unfold bv at c4
      clear hat hy om hb htv
      go_wp2
      go_roundw
      case rel =>
        have hy' : r < (textL r c ++ List.replicate (n - r) 0).length := by rw [List.length_append, textL_length, List.length_replicate]; omega
        refine ⟨r + 1, by omega, by go_num, ?_, HM.out.2.1.setCell (Nat.le_refl _) _⟩
        rw [HT.out, ← textL_set n r c hlt]
        exact HM.out.1.set r _
      case measure => simp [intOf]; omega
    · obtain rfl : r = n := by omega
      have HM := Lib.hid (And.intro om hb)
      clear om hb
      go_wp2
      go_ret
      have h2 := HM.out.1
      rw [Nat.sub_self, List.replicate_zero, List.append_nil] at h2
      exact ⟨_, rfl, h2, HM.out.2⟩

/-! ### lists of byte strings -/
set_option maxHeartbeats 1000000 in
theorem sames_any {v x : Value} {ls ms : List Bytes} {G H : Nat → Prop} (w : World) (hv : RowG w G v ls) (hx : RowG w H x ms) (hl : ls.length ≤ 1000000) :
    Calls Try.prog 18 #[v, x] w fun e w' => e = .returned (.bool (decide (ls = ms))) ∧ Below w.heap.size w w' := by
  obtain ⟨va, vc, hve⟩ := hv.shape
  obtain ⟨xa, xc, hxe⟩ := hx.shape
  have HV := Lib.hid (And.intro hv hx)
  clear hv hx
  by_cases hlen : ls.length = ms.length
  · have hlen' : (ls.length : Int) = (ms.length : Int) := by omega
    have HL := Lib.hid hlen
    have hq : ((ls.length : Int) != (ms.length : Int)) = false := by simp [hlen]
    have HE := Lib.hid (And.intro hve hxe)
    subst hve
    subst hxe
    rw [← hlen]
    clear hlen hlen' hq HE
    go_enter Try.func18, Try.ntmps18
    go_wp2
    go_loopw [5] (fun i wr => ∃ r : Nat, r ≤ ls.length ∧ i = .int .i64 (r : Int) ∧ ls.take r = ms.take r ∧ Below w.heap.size w wr) (fun i _ => ls.length - (intOf i).toNat)
    case atStart => exact ⟨0, by omega, rfl, rfl, Below.refl _ _⟩
    case round =>
      obtain ⟨r, hr, rfl, ht, hb⟩ := hrel
      by_cases hlt : r < ls.length
      · have hlt' : (r : Int) < (ls.length : Int) := by omega
        obtain ⟨g1, c1, e1, k1⟩ := (HV.out.1.below hb).cells (by omega)
        obtain ⟨g2, c2, e2, k2⟩ := (HV.out.2.below hb).cells (by have := HL.out; omega)
        simp only [Value.slice.injEq] at e1 e2
        obtain ⟨rfl, _, rfl⟩ := e1
        obtain ⟨rfl, _, rfl⟩ := e2
        obtain ⟨l, hl'⟩ : ∃ l, ls[r]? = some l := ⟨_, List.getElem?_eq_getElem hlt⟩
        obtain ⟨m, hm'⟩ : ∃ m, ms[r]? = some m := ⟨_, List.getElem?_eq_getElem (by have := HL.out; omega)⟩
        obtain ⟨a1, d1, f1, b1⟩ := k1 r l hl'
        obtain ⟨a2, d2, f2, b2⟩ := k2 r m hm'
        have hr0 : (0 : Int) ≤ (r : Int) := by omega
        have t1 := run_string_bs bt (d := 9) Try.underlying9 wr.drew (b1.kept fun _ _ hu => hu)
        have t2 := run_string_bs bt (d := 9) Try.underlying9 wr.drew (b2.kept fun _ _ hu => hu)
        have f1' : wr.drew.cell? ⟨g1, r, none⟩ = some (.slice a1 l.length d1) := f1
        have f2' : wr.drew.cell? ⟨g2, r, none⟩ = some (.slice a2 m.length d2) := f2
        have bd : Below w.heap.size w wr.drew := below_drewN hb 1
        have HS := Lib.hid (And.intro hl' (And.intro hm' (And.intro ht bd)))
        clear k1 k2 b1 b2 hl' hm' ht hb bd
        go_wp2
        refine region_till 99 (fun W => W = wr.drew) (by kernel_rfl) rfl (fun hS => ?_)
        clear f1 f2
        have hmr : (r : Int) < (ls.length : Int) := hlt'
        refine take_till (i := 0) (some 17) (.slice (some ⟨g1, 0, none⟩) ls.length vc) rfl rfl (by kernel_rfl) (by kernel_rfl) (by kernel_rfl) (by kernel_rfl) (by decide) (fun _ _ _ h => h) (by rfl) (fun W hW => ?_) hS ?_
        · subst hW
          go_simp
        simp only [Act.put, List.setIfInBounds_toArray, List.set_cons_zero, List.set_cons_succ]
        refine take_till (i := 1) (some 18) (.int .i64 (r : Int)) rfl rfl (by kernel_rfl) (by kernel_rfl) (by kernel_rfl) (by kernel_rfl) (by decide) (fun _ _ _ h => h) (by rfl) (fun W hW => ?_) hS ?_
        · subst hW
          go_simp
        simp only [Act.put, List.setIfInBounds_toArray, List.set_cons_zero, List.set_cons_succ]
        refine take_till (i := 2) (some 19) (.pointer (some ⟨g1, r, none⟩)) rfl rfl (by kernel_rfl) (by kernel_rfl) (by kernel_rfl) (by kernel_rfl) (by decide) (fun _ _ _ h => h) (by rfl) (fun W hW => ?_) hS ?_
        · subst hW
          go_simp
        simp only [Act.put, List.setIfInBounds_toArray, List.set_cons_zero, List.set_cons_succ]
        refine take_till (i := 3) (some 20) (.slice a1 l.length d1) rfl rfl (by kernel_rfl) (by kernel_rfl) (by kernel_rfl) (by kernel_rfl) (by decide) (fun _ _ _ h => h) (by rfl) (fun W hW => ?_) hS ?_
        · subst hW
          go_simp
        simp only [Act.put, List.setIfInBounds_toArray, List.set_cons_zero, List.set_cons_succ]
        refine take_till (i := 4) (some 21) (.string ⟨l.toArray⟩) rfl rfl (by kernel_rfl) (by kernel_rfl) (by kernel_rfl) (by kernel_rfl) (by decide) (fun _ _ _ h => h) (by rfl) (fun W hW => ?_) hS ?_
        · subst hW
          go_simp
        simp only [Act.put, List.setIfInBounds_toArray, List.set_cons_zero, List.set_cons_succ]
        refine take_till (i := 5) (some 22) (.slice (some ⟨g2, 0, none⟩) ls.length xc) rfl rfl (by kernel_rfl) (by kernel_rfl) (by kernel_rfl) (by kernel_rfl) (by decide) (fun _ _ _ h => h) (by rfl) (fun W hW => ?_) hS ?_
        · subst hW
          go_simp
        simp only [Act.put, List.setIfInBounds_toArray, List.set_cons_zero, List.set_cons_succ]
        refine take_till (i := 6) (some 23) (.int .i64 (r : Int)) rfl rfl (by kernel_rfl) (by kernel_rfl) (by kernel_rfl) (by kernel_rfl) (by decide) (fun _ _ _ h => h) (by rfl) (fun W hW => ?_) hS ?_
        · subst hW
          go_simp
        simp only [Act.put, List.setIfInBounds_toArray, List.set_cons_zero, List.set_cons_succ]
        refine take_till (i := 7) (some 24) (.pointer (some ⟨g2, r, none⟩)) rfl rfl (by kernel_rfl) (by kernel_rfl) (by kernel_rfl) (by kernel_rfl) (by decide) (fun _ _ _ h => h) (by rfl) (fun W hW => ?_) hS ?_
        · subst hW
          go_simp
        simp only [Act.put, List.setIfInBounds_toArray, List.set_cons_zero, List.set_cons_succ]
        refine take_till (i := 8) (some 25) (.slice a2 m.length d2) rfl rfl (by kernel_rfl) (by kernel_rfl) (by kernel_rfl) (by kernel_rfl) (by decide) (fun _ _ _ h => h) (by rfl) (fun W hW => ?_) hS ?_
        · subst hW
          go_simp
        simp only [Act.put, List.setIfInBounds_toArray, List.set_cons_zero, List.set_cons_succ]
        refine take_till (i := 9) (some 26) (.string ⟨m.toArray⟩) rfl rfl (by kernel_rfl) (by kernel_rfl) (by kernel_rfl) (by kernel_rfl) (by decide) (fun _ _ _ h => h) (by rfl) (fun W hW => ?_) hS ?_
        · subst hW
          go_simp
        simp only [Act.put, List.setIfInBounds_toArray, List.set_cons_zero, List.set_cons_succ]
        clear t1 t2
        refine next_till 10 (by kernel_rfl) rfl (fun K hK => ?_)
        by_cases he : l = m
        · subst he
          go_simp
          refine hK.out _ _ (fun _ => hS) ?_
          clear hK K
          refine done_till (by kernel_rfl) ?_ _
          go_wp2
          go_roundw
          case rel =>
            refine ⟨r + 1, by omega, by go_num, ?_, HS.out.2.2.2⟩
            rw [List.take_add_one, List.take_add_one, HS.out.1, HS.out.2.1, HS.out.2.2.1]
          case measure => simp [intOf]; omega
        · have hne : (l == m) = false := by rw [beq_eq_false_iff_ne]; exact he
          have hd : decide (ls = ms) = false := by
            rw [decide_eq_false_iff_not]
            intro e
            have h1 := HS.out.1
            rw [e, HS.out.2.1] at h1
            exact he (Option.some.inj h1).symm
          have HD := Lib.hid hd
          clear he hd
          go_simp
          refine hK.out _ _ (fun _ => hS) ?_
          clear hK K
          refine done_till (by kernel_rfl) ?_ _
          go_wp2
          go_ret
          rw [HD.out]
          exact ⟨rfl, HS.out.2.2.2⟩
      · obtain rfl : r = ls.length := by omega
        have hd : ls = ms := by
          rw [List.take_of_length_le (Nat.le_refl _), List.take_of_length_le (by rw [HL.out]; exact Nat.le_refl _)] at ht
          exact ht
        have HD := Lib.hid (And.intro hd hb)
        clear ht hb hd
        go_wp2
        go_ret
        rw [decide_eq_true HD.out.1]
        exact ⟨rfl, HD.out.2⟩
  · have hq : ((ls.length : Int) != (ms.length : Int)) = true := by
      rw [bne_iff_ne]
      omega
    have hd : decide (ls = ms) = false := by
      rw [decide_eq_false_iff_not]
      intro e
      rw [e] at hlen
      exact hlen rfl
    have HD := Lib.hid hd
    subst hve
    subst hxe
    clear hlen hd
    go_enter Try.func18, Try.ntmps18
    go_wp2
    go_ret
    rw [HD.out]
    exact ⟨rfl, Below.refl _ _⟩
end Go.Proofs.Ytijkkkiejdaljaa
