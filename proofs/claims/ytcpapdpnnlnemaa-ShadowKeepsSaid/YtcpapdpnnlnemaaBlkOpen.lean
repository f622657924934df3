/- Contracts of block.Open and of what it calls: each answers as the chapter says and writes nothing that was there; conditions: the lengths that each contract names. -/
import Derived.Test.YtcpapdpnnlnemaaBlkSeal
import Derived.Test.YtcpapdpnnlnemaaOcTakeBytes
namespace Go.Proofs.Ytcpapdpnnlnemaa
open Go.RowKit

theorem noughts_step (l : List UInt8) (r : Nat) (x : UInt8) (hx : l[r]? = some x) : noughtsB (l.take (r + 1)) = (noughtsB (l.take r) && (x == 0)) := by
  rw [List.take_add_one, hx]
  simp [noughtsB]

set_option maxHeartbeats 400000 in
theorem noughts_any {b : Value} {l : List UInt8} (w : World) (hb : Bs w b l) :
    Calls Try.prog 73 #[b] w fun e w' => e = .returned (.bool (noughtsB l)) ∧ w = w' := by
  obtain ⟨a, cap, rfl, hb⟩ := hb.shape
  have hlen := hb.len
  go_enter Try.func73, Try.ntmps73
  go_wp2
  go_loopw [4, 7] (fun _ i wr => ∃ r : Nat, r ≤ l.length ∧ i = .int .i64 r ∧ noughtsB (l.take r) = true ∧ w = wr) (fun _ i _ => l.length - (intOf i).toNat)
  case atStart => exact ⟨0, by omega, rfl, rfl, rfl⟩
  case round =>
    obtain ⟨r, hr, rfl, hn, rfl⟩ := hrel
    by_cases hlt : r < l.length
    · obtain ⟨b0, o0, cap0, e0, q0, hb0, hcells⟩ := hb.open (by omega)
      simp only [Value.slice.injEq] at e0
      obtain ⟨rfl, -, rfl⟩ := e0
      obtain ⟨x, hx⟩ : ∃ x, l[r]? = some x := ⟨_, List.getElem?_eq_getElem hlt⟩
      have hcell := hcells r x hx
      have hst := noughts_step l r x hx
      rw [hn, Bool.true_and] at hst
      by_cases h0 : x = 0
      · subst h0
        have H := Lib.hid (And.intro hst hx)
        clear hst hx hn hcells
        rw [show ((0 : UInt8).toNat : Int) = 0 from rfl] at hcell
        go_wp2
        go_roundw
        case rel => exact ⟨r + 1, by omega, by go_num, by rw [H.out.1]; rfl, by trivial⟩
        case measure => simp [intOf]; omega
      · have hne : ¬ (x.toNat : Int) = 0 := fun h => h0 (UInt8.toNat_inj.1 (by rw [show (0 : UInt8).toNat = 0 from rfl]; omega))
        have hf : noughtsB l = false := by
          have h1 : (x == 0) = false := by simpa using h0
          rw [h1] at hst
          unfold noughtsB at hst ⊢
          rw [List.all_eq_false] at hst ⊢
          obtain ⟨y, hy, hy2⟩ := hst
          exact ⟨y, List.mem_of_mem_take hy, hy2⟩
        have HF := Lib.hid hf
        clear hst hx hn hcells hf h0
        go_wp2
        go_ret
        exact ⟨ret_bool HF.out.symm, rfl⟩
    · obtain rfl : r = l.length := by omega
      rw [List.take_length] at hn
      have HF := Lib.hid hn
      clear hn
      go_wp2
      go_ret
      exact ⟨ret_bool HF.out.symm, rfl⟩

/-- What Open answers. -/
def Opens (w : World) (l : List UInt8) (e : Ending) (w' : World) : Prop :=
  ∃ v, e = .returned (.tuple #[.int .u8 ((openV l).1.toNat : Int), v, .int .i64 (openV l).2.2]) ∧ Ow w' w.heap.size 5 v (openV l).2.1 ∧ Below w.heap.size w w'

theorem opens_spoilt {w w' : World} {l : List UInt8} (h : ¬ (l.length = 512 ∧ rightB l = true)) (hb : Below w.heap.size w w') : Opens w l (.returned (.tuple #[.int .u8 0, .slice none 0 0, .int .i64 9])) w' := by
  unfold Opens
  rw [openV_spoilt h]
  exact ⟨_, rfl, World.ownsRow_nil _ _ _ _, hb⟩
theorem opens_bad {w w' : World} {l : List UInt8} (h : l.length = 512 ∧ rightB l = true) (ho : ¬ openOk l = true) (hb : Below w.heap.size w w') : Opens w l (.returned (.tuple #[.int .u8 0, .slice none 0 0, .int .i64 5])) w' := by
  unfold Opens
  rw [openV_bad h ho]
  exact ⟨_, rfl, World.ownsRow_nil _ _ _ _, hb⟩

set_option maxHeartbeats 400000 in
theorem blkOpen_short {b : Value} {l : List UInt8} (w : World) (hb : Bs w b l) (h : l.length ≠ 512) : Calls Try.prog 63 #[b] w (Opens w l) := by
  obtain ⟨a, cap, rfl, hb⟩ := hb.shape
  have fin := Lib.hid (fun (w' : World) (hb : Below w.heap.size w w') => opens_spoilt (l := l) (fun q => h q.1) hb)
  have hne : ((l.length : Int) != 512) = true := by simp; omega
  clear h
  go_enter Try.func63, Try.ntmps63
  go_wp2
  go_ret3
  exact fin.out _ (Below.refl _ _)

set_option maxHeartbeats 400000 in
theorem blkOpen_wrong {b : Value} {l : List UInt8} (w : World) (hb : Bs w b l) (h : l.length = 512) (hr : rightB l = false) : Calls Try.prog 63 #[b] w (Opens w l) := by
  have fin := Lib.hid (fun (w' : World) (hb : Below w.heap.size w w') => opens_spoilt (l := l) (fun q => by rw [hr] at q; cases q.2) hb)
  have HR := Lib.hid hr
  clear hr
  obtain ⟨a, cap, rfl, hb⟩ := hb.shape
  have e : (Value.slice a l.length cap) = .slice a 512 cap := by rw [h]
  rw [e] at hb ⊢
  clear e h
  go_enter Try.func63, Try.ntmps63
  go_wp2_with fail
  refine (right_any _ hb).mono ?_
  rintro e w1 ⟨he, n, hw⟩
  rw [HR.out] at he
  subst he
  have b1 : Below w.heap.size w w1 := by rw [hw]; exact below_drewN (Below.refl _ _) n
  clear hw
  go_wp2
  go_ret3
  exact fin.out _ b1

set_option maxHeartbeats 1000000 in
theorem blkOpen_right {b : Value} {l : List UInt8} (w : World) (hb : Bs w b l) (h : l.length = 512) (hr : rightB l = true) : Calls Try.prog 63 #[b] w (Opens w l) := by
  have HR := Lib.hid hr
  have HS := Lib.hid (And.intro h hr)
  obtain ⟨x0, hx0⟩ : ∃ x, l[0]? = some x := ⟨_, List.getElem?_eq_getElem (by omega)⟩
  have hx0' : l.getD 0 0 = x0 := by rw [List.getD_eq_getElem?_getD, hx0]; rfl
  obtain ⟨b0, o0, cap, rfl, q0, hb0, hcells⟩ := hb.open (by omega)
  have hcell := hcells 0 x0 hx0
  rw [Nat.add_zero] at hcell
  clear hr hx0 hcells
  have e : (Value.slice (some ⟨b0, o0, none⟩) l.length cap) = .slice (some ⟨b0, o0, none⟩) 512 cap := by rw [h]
  rw [e] at hb ⊢
  clear e
  obtain ⟨v1, r1, s1⟩ := run_slice_to_bs bt w hb .i64 508 (by omega)
  rw [show ((508 : Nat) : Int) = 508 from rfl] at r1
  have hl1 : (l.take 508).length = 508 := by simp; omega
  have hn0 : tbN (l.take 508) 1 = nOf l := by
    unfold tbN nOf
    rw [show (1 : Int).toNat = 1 from rfl, List.drop_take, List.take_take]
    rfl
  have hmay : takeMay (l.take 508) 1 2 := ⟨rfl, by decide, by rw [hl1]; decide⟩
  by_cases hn : nOf l ≤ 505
  · have hok : tbOk (l.take 508) 1 := ⟨hmay, by rw [hl1, hn0]; omega⟩
    have hE : tbE (l.take 508) 1 = 0 := by unfold tbE; rw [if_pos hmay, if_pos hok]
    have hX : tbX (l.take 508) 1 = ((3 + nOf l : Nat) : Int) := by unfold tbX; rw [if_pos hok, hn0]; omega
    have hL : tbL (l.take 508) 1 = (l.drop 3).take (nOf l) := by
      unfold tbL
      rw [if_pos hok, hn0, show (1 : Int).toNat + 2 = 3 from rfl, List.drop_take, List.take_take, Nat.min_eq_left (by omega)]
    obtain ⟨v2, r2, s2⟩ := run_slice_bs bt w hb .i64 .i64 (3 + nOf l) 508 (by omega) (by omega)
    rw [show ((508 : Nat) : Int) = 508 from rfl, Int.natCast_add, show ((3 : Nat) : Int) = 3 from rfl] at r2
    rw [Int.natCast_add, show ((3 : Nat) : Int) = 3 from rfl] at hX
    have HV := Lib.hid (And.intro hE (And.intro hX hL))
    have hgood : openOk l = (x0 != 0 && noughtsB ((l.take 508).drop (3 + nOf l))) := by
      unfold openOk
      rw [decide_eq_true hn, Bool.true_and, hx0']
    have hov := fun (ho : openOk l = true) => openV_good HS.out ho
    rw [hx0'] at hov
    have HG := Lib.hid hgood
    have HO := Lib.hid hov
    clear hok hE hX hL hgood hov hn0 hmay
    generalize hz : (l.take 508).drop (3 + nOf l) = z at *
    generalize hbd : (l.drop 3).take (nOf l) = body at *
    generalize nOf l = n at *
    clear hz hbd hx0'
    by_cases h0 : x0 = 0
    · subst h0
      have hbad : ¬ openOk l = true := by rw [HG.out]; simp
      have fin := Lib.hid (fun (w' : World) (hb : Below w.heap.size w w') => opens_bad HS.out hbad hb)
      rw [show ((0 : UInt8).toNat : Int) = 0 from rfl] at hcell
      clear hbad h
      go_enter Try.func63, Try.ntmps63
      go_wp2_with fail
      refine (right_any _ hb).mono ?_
      rintro e w1 ⟨he, m, hw⟩
      rw [HR.out] at he
      subst he
      have b1 : Below w.heap.size w w1 := by rw [hw]; exact below_drewN (Below.refl _ _) m
      have s1' := s1.below b1
      clear hw
      go_wp2_with fail
      refine (takeBytes_any 1 _ s1' (by rw [hl1]; decide)).mono ?_
      rintro e w2 ⟨v3, he, o3, b2⟩
      rw [HV.out.1, HV.out.2.1] at he
      subst he
      have b2' := b1.trans (b2.mono b1.size)
      have hc2 := (b2'.cell (p := ⟨b0, o0, none⟩) (by exact hb0)).trans hcell
      clear o3 b2 b1
      go_wp2
      go_ret3
      exact fin.out _ b2'
    · have hne : ((x0.toNat : Int) == 0) = false := by
        rw [beq_eq_false_iff_ne]
        exact fun h => h0 (UInt8.toNat_inj.1 (by rw [show (0 : UInt8).toNat = 0 from rfl]; omega))
      have hx : (x0 != 0) = true := by simpa using h0
      have hgd : openOk l = noughtsB z := by rw [HG.out, hx, Bool.true_and]
      clear hx h0
      by_cases hz : noughtsB z = true
      · have ho : openOk l = true := by rw [hgd, hz]
        have hv := HO.out ho
        have HZ := Lib.hid hz
        have HW := Lib.hid hv
        clear hz ho hgd hv h
        go_enter Try.func63, Try.ntmps63
        go_wp2_with fail
        refine (right_any _ hb).mono ?_
        rintro e w1 ⟨he, m, hw⟩
        rw [HR.out] at he
        subst he
        have b1 : Below w.heap.size w w1 := by rw [hw]; exact below_drewN (Below.refl _ _) m
        have s1' := s1.below b1
        clear hw
        go_wp2_with fail
        refine (takeBytes_any 1 _ s1' (by rw [hl1]; decide)).mono ?_
        rintro e w2 ⟨v3, he, o3, b2⟩
        rw [HV.out.1, HV.out.2.1] at he
        subst he
        rw [HV.out.2.2] at o3
        have b2' := b1.trans (b2.mono b1.size)
        have hc2 := (b2'.cell (p := ⟨b0, o0, none⟩) (by exact hb0)).trans hcell
        have s2' := s2.below b2'
        have o3' := o3.mono b1.size
        clear o3 b2 b1 s1' s1
        go_wp2_with fail
        refine (noughts_any _ s2').mono ?_
        rintro e w3 ⟨he, rfl⟩
        rw [HZ.out] at he
        subst he
        go_wp2
        go_ret3
        refine ⟨v3, ?_, ?_, b2'⟩
        · rw [HW.out]; rfl
        · rw [HW.out]; exact o3'
      · have hbad : ¬ openOk l = true := by rw [hgd]; exact hz
        have fin := Lib.hid (fun (w' : World) (hb : Below w.heap.size w w') => opens_bad HS.out hbad hb)
        have HZ := Lib.hid (show noughtsB z = false by simpa using hz)
        clear hbad hgd hz h
        go_enter Try.func63, Try.ntmps63
        go_wp2_with fail
        refine (right_any _ hb).mono ?_
        rintro e w1 ⟨he, m, hw⟩
        rw [HR.out] at he
        subst he
        have b1 : Below w.heap.size w w1 := by rw [hw]; exact below_drewN (Below.refl _ _) m
        have s1' := s1.below b1
        clear hw
        go_wp2_with fail
        refine (takeBytes_any 1 _ s1' (by rw [hl1]; decide)).mono ?_
        rintro e w2 ⟨v3, he, o3, b2⟩
        rw [HV.out.1, HV.out.2.1] at he
        subst he
        have b2' := b1.trans (b2.mono b1.size)
        have hc2 := (b2'.cell (p := ⟨b0, o0, none⟩) (by exact hb0)).trans hcell
        have s2' := s2.below b2'
        clear o3 b2 b1 s1' s1
        go_wp2_with fail
        refine (noughts_any _ s2').mono ?_
        rintro e w3 ⟨he, rfl⟩
        rw [HZ.out] at he
        subst he
        go_wp2
        go_ret3
        exact fin.out _ b2'
  · have hok : ¬ tbOk (l.take 508) 1 := fun q => by have := q.2; rw [hl1, hn0] at this; omega
    have hE : tbE (l.take 508) 1 = 5 := by unfold tbE; rw [if_pos hmay, if_neg hok]
    have hX : tbX (l.take 508) 1 = 0 := by unfold tbX; rw [if_neg hok]
    have hbad : ¬ openOk l = true := by unfold openOk; rw [decide_eq_false hn]; simp
    have fin := Lib.hid (fun (w' : World) (hb : Below w.heap.size w w') => opens_bad HS.out hbad hb)
    have HV := Lib.hid (And.intro hE hX)
    clear hok hE hX hbad hn hn0 hmay h hx0'
    go_enter Try.func63, Try.ntmps63
    go_wp2_with fail
    refine (right_any _ hb).mono ?_
    rintro e w1 ⟨he, m, hw⟩
    rw [HR.out] at he
    subst he
    have b1 : Below w.heap.size w w1 := by rw [hw]; exact below_drewN (Below.refl _ _) m
    have s1' := s1.below b1
    clear hw
    go_wp2_with fail
    refine (takeBytes_any 1 _ s1' (by rw [hl1]; decide)).mono ?_
    rintro e w2 ⟨v3, he, o3, b2⟩
    rw [HV.out.1, HV.out.2] at he
    subst he
    have b2' := b1.trans (b2.mono b1.size)
    clear o3 b2 b1
    go_wp2
    go_ret3
    exact fin.out _ b2'

theorem blkOpen_any {b : Value} {l : List UInt8} (w : World) (hb : Bs w b l) : Calls Try.prog 63 #[b] w (Opens w l) := by
  by_cases h : l.length = 512
  · rcases hr : rightB l with _ | _
    · exact blkOpen_wrong w hb h hr
    · exact blkOpen_right w hb h hr
  · exact blkOpen_short w hb h
end Go.Proofs.Ytcpapdpnnlnemaa
