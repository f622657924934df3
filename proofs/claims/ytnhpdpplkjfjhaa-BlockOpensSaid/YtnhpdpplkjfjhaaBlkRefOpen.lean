/- The contract of the document's Open (layer 4): it answers as the chapter says and writes nothing that was there; no condition. -/
import Derived.Test.YtnhpdpplkjfjhaaBlkRefs
import Derived.Test.YtnhpdpplkjfjhaaBlkOpen
namespace Go.Proofs.Ytnhpdpplkjfjhaa
open Go.RowKit

theorem refRight_b {b : Value} {l : List UInt8} (w : World) (hb : Bs w b l) :
    Calls Try.prog 22 #[b] w fun e w' => e = .returned (.bool (rightB l)) ∧ Below w.heap.size w w' :=
  (refRight_any w hb).mono fun _ _ ⟨he, n, hw⟩ => ⟨he, by rw [hw]; exact below_drewN (Below.refl _ _) n⟩

set_option maxHeartbeats 400000 in
theorem refOpen_short {b : Value} {l : List UInt8} (w : World) (hb : Bs w b l) (h : l.length ≠ 512) : Calls Try.prog 13 #[b] w (Opens w l) := by
  obtain ⟨a, cap, rfl, hb⟩ := hb.shape
  have fin := Lib.hid (fun (w' : World) (hb : Below w.heap.size w w') => opens_spoilt (l := l) (fun q => h q.1) hb)
  have hne : ((l.length : Int) != 512) = true := by simp; omega
  clear h
  go_enter Try.func13, Try.ntmps13
  go_wp2
  go_ret3
  exact fin.out _ (Below.refl _ _)

set_option maxHeartbeats 400000 in
theorem refOpen_wrong {b : Value} {l : List UInt8} (w : World) (hb : Bs w b l) (h : l.length = 512) (hr : rightB l = false) : Calls Try.prog 13 #[b] w (Opens w l) := by
  have fin := Lib.hid (fun (w' : World) (hb : Below w.heap.size w w') => opens_spoilt (l := l) (fun q => by rw [hr] at q; cases q.2) hb)
  have HR := Lib.hid hr
  clear hr
  obtain ⟨a, cap, rfl, hb⟩ := hb.shape
  have e : (Value.slice a l.length cap) = .slice a 512 cap := by rw [h]
  rw [e] at hb ⊢
  clear e h
  go_enter Try.func13, Try.ntmps13
  go_wp2_with fail
  refine (refRight_b _ hb).mono ?_
  rintro e w1 ⟨he, b1⟩
  rw [HR.out] at he
  subst he
  go_wp2
  go_ret3
  exact fin.out _ b1

theorem nOf_bytes {l : List UInt8} {x1 x2 : UInt8} (h1 : l[1]? = some x1) (h2 : l[2]? = some x2) : nOf l = x1.toNat * 256 + x2.toNat := by
  have e : (l.drop 1).take 2 = [x1, x2] := by
    match l, h1, h2 with
    | _ :: a :: b :: m, h1, h2 =>
      simp at h1 h2
      subst h1; subst h2
      rfl
  unfold nOf
  rw [e]
  simp [beNat]

set_option maxHeartbeats 1000000 in
theorem refOpen_right {b : Value} {l : List UInt8} (w : World) (hb : Bs w b l) (h : l.length = 512) (hr : rightB l = true) : Calls Try.prog 13 #[b] w (Opens w l) := by
  have HR := Lib.hid hr
  have HS := Lib.hid (And.intro h hr)
  obtain ⟨x0, hx0⟩ : ∃ x, l[0]? = some x := ⟨_, List.getElem?_eq_getElem (by omega)⟩
  obtain ⟨x1, hx1⟩ : ∃ x, l[1]? = some x := ⟨_, List.getElem?_eq_getElem (by omega)⟩
  obtain ⟨x2, hx2⟩ : ∃ x, l[2]? = some x := ⟨_, List.getElem?_eq_getElem (by omega)⟩
  have hx0' : l.getD 0 0 = x0 := by rw [List.getD_eq_getElem?_getD, hx0]; rfl
  have hN := nOf_bytes hx1 hx2
  have y1 := x1.toNat_lt
  have y2 := x2.toNat_lt
  obtain ⟨b0, o0, cap, rfl, q0, hb0, hcells⟩ := hb.open (by omega)
  have hcell := hcells 0 x0 hx0
  have hcell1 := hcells 1 x1 hx1
  have hcell2 := hcells 2 x2 hx2
  rw [Nat.add_zero] at hcell
  clear hr hx0 hx1 hx2 hcells
  have e : (Value.slice (some ⟨b0, o0, none⟩) l.length cap) = .slice (some ⟨b0, o0, none⟩) 512 cap := by rw [h]
  rw [e] at hb ⊢
  clear e
  have hi : ((x1.toNat : Int) * 256 + (x2.toNat : Int)) = ((nOf l : Nat) : Int) := by rw [hN]; omega
  have HI := Lib.hid hi
  clear hi hN
  go_enter Try.func13, Try.ntmps13
  go_wp2_with fail
  refine (refRight_b _ hb).mono ?_
  rintro e w1 ⟨he, b1⟩
  rw [HR.out] at he
  subst he
  have c1 := (b1.cell (p := ⟨b0, o0 + 1, none⟩) (by exact hb0)).trans hcell1
  have c2 := (b1.cell (p := ⟨b0, o0 + 2, none⟩) (by exact hb0)).trans hcell2
  go_wp2_with fail
  go_quiet (fail)
  rw [HI.out]
  have b2 := below_drewN b1 nq
  clear b1 c1 c2 HI hcell1 hcell2
  generalize w1.drewN nq = w2 at *
  by_cases hn : nOf l ≤ 505
  · have hI : ¬ (505 : Int) < ((nOf l : Nat) : Int) := by omega
    obtain ⟨v3, r3, s3⟩ := run_slice_bs bt w hb .i64 .i64 3 (3 + nOf l) (by omega) (by omega)
    rw [Int.natCast_add, show ((3 : Nat) : Int) = 3 from rfl] at r3
    have hbd : (l.take (3 + nOf l)).drop 3 = (l.drop 3).take (nOf l) := by rw [List.take_drop]
    rw [hbd] at s3
    have hlen : ((l.drop 3).take (nOf l)).length ≤ 505 := by have := List.length_take_le (nOf l) (l.drop 3); omega
    have hiff := openOk_iff HS.out hn
    have hgood := fun (ho : openOk l = true) => openV_good HS.out ho
    rw [hx0'] at hiff hgood
    generalize (l.drop 3).take (nOf l) = body at *
    have Hiff := Lib.hid (And.intro hiff hgood)
    clear hiff hgood hbd hx0' hn
    generalize nOf l = n at *
    have b3 := b2.alloc b2.size (.cells #[] 5)
    have o3 : Ow (w2.alloc (.cells #[] 5)) w.heap.size 5 (.slice (some ⟨w2.heap.size, 0, none⟩) 0 0) [] := (ow_empty w2).mono b2.size
    have s3' := s3.below b3
    have hs3 : ([] : List UInt8).length + body.length ≤ 140737488355328 := by simp; omega
    have hz3 := b3.size
    go_wp2_with (at_builtin; refine wpList_append_bs bt rfl (.tmp 29) (.tmp 33) rfl w.heap.size rfl rfl o3 s3' hs3 hz3 ?_; intro v4 w4 o4 g4; have b4 := below_own b3 o3 g4; have hc4 := (b4.cell (p := ⟨b0, o0, none⟩) (by exact hb0)).trans hcell)
    rw [List.nil_append] at o4
    clear b3 o3 s3 s3' hs3 hz3 g4 r3
    by_cases h0 : x0 = 0
    · subst h0
      have hbad : ¬ openOk l = true := fun q => (Hiff.out.1.1 q).1 rfl
      have fin := Lib.hid (fun (w' : World) (hb : Below w.heap.size w w') => opens_bad HS.out hbad hb)
      rw [show ((0 : UInt8).toNat : Int) = 0 from rfl] at hc4 hcell ⊢
      clear hbad
      refine (refSeal_zero _ o4.bs).mono ?_
      rintro e w5 ⟨rfl, rfl⟩
      go_wp2
      go_ret3
      exact fin.out _ b4
    · refine (refSeal_ok x0 _ o4.bs h0 hlen).mono ?_
      rintro e w5 ⟨v5, rfl, o5, b5⟩
      have b6 := b4.trans (b5.mono b4.size)
      have hb6 := hb.below b6
      have o6 := (o4.below b5)
      have hc6 := (b6.cell (p := ⟨b0, o0, none⟩) (by exact hb0)).trans hcell
      have k1 := run_string_bs bt (d := 9) Try.underlying9 w5 o5.bs
      have k2 := run_string_bs bt (d := 9) Try.underlying9 w5 hb6
      clear hc4
      by_cases hq : sealL x0 body = l
      · have ho : openOk l = true := Hiff.out.1.2 ⟨h0, hq⟩
        have HV := Lib.hid (Hiff.out.2 ho)
        rw [hq] at k1
        clear ho hq o5 b5 h0
        go_wp2
        go_ret3
        refine ⟨v4, ?_, ?_, b6⟩
        · rw [HV.out]; rfl
        · rw [HV.out]; exact o6
      · have hbad : ¬ openOk l = true := fun q => hq (Hiff.out.1.1 q).2
        have fin := Lib.hid (fun (w' : World) (hb : Below w.heap.size w w') => opens_bad HS.out hbad hb)
        have hne : (sealL x0 body == l) = false := beq_eq_false_iff_ne.2 hq
        generalize sealL x0 body = sl at *
        clear hq hbad
        go_wp2
        go_ret3
        exact fin.out _ b6
  · have hI : (505 : Int) < ((nOf l : Nat) : Int) := by omega
    have hbad : ¬ openOk l = true := by unfold openOk; rw [decide_eq_false hn]; simp
    have fin := Lib.hid (fun (w' : World) (hb : Below w.heap.size w w') => opens_bad HS.out hbad hb)
    clear hbad hn hx0'
    generalize nOf l = n at *
    go_wp2
    go_ret3
    exact fin.out _ b2

theorem refOpen_any {b : Value} {l : List UInt8} (w : World) (hb : Bs w b l) : Calls Try.prog 13 #[b] w (Opens w l) := by
  by_cases h : l.length = 512
  · rcases hr : rightB l with _ | _
    · exact refOpen_wrong w hb h hr
    · exact refOpen_right w hb h hr
  · exact refOpen_short w hb h
end Go.Proofs.Ytnhpdpplkjfjhaa
