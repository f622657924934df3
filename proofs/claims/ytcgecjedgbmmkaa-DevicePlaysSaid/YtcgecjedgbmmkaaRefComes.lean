/- Comes (the On) of the document's device; conditions: it lies in memory; fewer than 2^32 things are loose in each block; the picks lie elsewhere. -/
import Derived.Test.YtcgecjedgbmmkaaRefFlush
import Derived.Test.YtcgecjedgbmmkaaDevOn
import Derived.IntWalk
namespace Go.Proofs.Ytcgecjedgbmmkaa
open Go.RowKit Go.Maps

theorem cnt_succ {l : List Bk} {k : Nat} {x : Bk} (h : l[k]? = some x) : cnt l (k + 1) = cnt l k + if x.loose = [] then 0 else 1 := by
  unfold cnt
  rw [List.take_add_one, h, List.countP_append]
  cases hl : x.loose <;> simp [hl]
theorem cnt_le (l : List Bk) (k : Nat) : cnt l k ≤ k := by
  unfold cnt
  exact Nat.le_trans List.countP_le_length (by simp; omega)

section
variable {w : World} {r : Nat} {D : Dv} {F : Nat → Prop}

theorem rcomes_on (h : Ref w r D F) (ho : D.on = true) {v : Value} {l : List Int} (hv : Iv w v l) : Calls Try.prog 28 #[ptr r, v] w fun e w' => e = .returned (err 3) ∧ w = w' := by
  obtain ⟨a, cap, rfl⟩ := hv.shape
  obtain ⟨g, cap, cur, lv, h⟩ := h
  obtain ⟨_, c1, c2, _, f1, f2⟩ := h.top
  rw [ho] at c2
  clear h ho hv
  go_enter Try.func28, Try.ntmps28
  go_wp2
  go_ret
  exact ⟨rfl, rfl⟩

/-- What a round of Comes leaves. -/
def ComesR (w : World) (r g cap : Nat) (D : Dv) (F : Nat → Prop) (v : Value) (l : List Int) (k : Nat) (wr : World) : Prop :=
  (∃ cur lv, RefAt wr r g cap cur lv ⟨mixed (comes D.bk l) D.bk k, D.on, D.left⟩ F) ∧ Only F w wr

theorem ComesR.skip {r g cap : Nat} {D : Dv} {v : Value} {l : List Int} {k : Nat} {wr : World} {x : Bk} (h : ComesR w r g cap D F v l k wr) (hx : D.bk[k]? = some x) (hl : x.loose = []) : ComesR w r g cap D F v l (k + 1) wr := by
  have hlt := (List.getElem?_eq_some_iff.1 hx).1
  have h1 := mixed_set (comes_length D.bk l) (comes_at D.bk l k x hx)
  have e : (⟨x.sure, []⟩ : Bk) = x := by rw [← hl]
  rw [if_pos hl, e] at h1
  have h2 := mixed_at (comes_length D.bk l) hlt
  have h3 : (mixed (comes D.bk l) D.bk k).set k x = mixed (comes D.bk l) D.bk k := by
    apply List.ext_getElem?
    intro j
    by_cases hj : j = k
    · subst hj
      rw [List.getElem?_set_self (by rw [mixed_length (comes_length D.bk l)]; exact hlt), h2, hx]
    · rw [List.getElem?_set_ne (by omega)]
  rw [h3] at h1
  obtain ⟨⟨cur, lv, hr⟩, ho⟩ := h
  rw [h1] at hr
  exact ⟨⟨cur, lv, hr⟩, ho⟩

theorem ComesR.turn {r g cap : Nat} {D : Dv} {v : Value} {l : List Int} {k : Nat} {wr : World} {x : Bk} (h : ComesR w r g cap D F v l k wr) (hx : D.bk[k]? = some x) (hl : x.loose ≠ []) {s : Bytes} (hs : x.picked (pickAt l (cnt D.bk k) x.loose.length) = s) :
    ComesR w r g cap D F v l (k + 1) ((wr.setCell ⟨g, k * 2, none⟩ (str s)).setCell ⟨g, k * 2 + 1, none⟩ nilSl) := by
  have hlt := (List.getElem?_eq_some_iff.1 hx).1
  have h1 := mixed_set (comes_length D.bk l) (comes_at D.bk l k x hx)
  rw [if_neg hl, hs] at h1
  have h2 := mixed_at (comes_length D.bk l) hlt
  obtain ⟨⟨cur, lv, hr⟩, ho⟩ := h
  have h3 := hr.one (h2.trans hx) s
  simp only [h1] at h3
  exact ⟨⟨_, _, h3.1⟩, ho.trans h3.2⟩

set_option maxRecDepth 100000 in
set_option maxHeartbeats 1000000 in
theorem rcomes_ok (h : Ref w r D F) (ho : D.on = false) (hsmall : ∀ (k : Nat) (x : Bk), D.bk[k]? = some x → x.loose.length < 4294967296) {v : Value} {l : List Int} (hv : Iv w v l) (hoff : l ≠ [] → ∀ q, v.ownBlock = some q → ¬ F q) :
    Calls Try.prog 28 #[ptr r, v] w fun e w' => e = .returned (err 0) ∧ Ref w' r ⟨comes D.bk l, true, -1⟩ F ∧ Only F w w' := by
  have fr := h.fr
  obtain ⟨g, cap, cur, lv, h⟩ := h
  have c2 := h.top.2.2.1
  rw [ho] at c2
  have hm : RefAt w r g cap cur lv ⟨mixed (comes D.bk l) D.bk 0, D.on, D.left⟩ F := by rw [mixed_zero]; exact h
  have hfew : D.bk.length ≤ 4096 := h.few
  have hroom : D.bk.length ≤ cap := h.room
  have H1 := Lib.hid (show ComesR w r g cap D F v l 0 w from ⟨⟨cur, lv, hm⟩, Only.refl _ _⟩)
  have HS := Lib.hid (And.intro hsmall hoff)
  obtain ⟨a, pc, rfl⟩ := hv.shape
  have hlen : l.length ≤ 9223372036854775807 := by
    obtain ⟨_, _, _, h1, _⟩ := hv
    exact h1
  have HV := Lib.hid hv
  clear h ho hm hsmall hoff hv
  go_enter Try.func28, Try.ntmps28
  go_wp2
  go_loopw [5, 6, 7, 8, 9] (fun nx i _ _ _ wr => ∃ k : Nat, k ≤ D.bk.length ∧ nx = .int .i64 (cnt D.bk k : Nat) ∧ i = .int .i64 k ∧ ComesR w r g cap D F (.slice a l.length pc) l k wr) (fun _ i _ _ _ _ => D.bk.length - (intOf i).toNat)
  case atStart => exact ⟨0, Nat.zero_le _, rfl, rfl, H1.out⟩
  case round =>
    obtain ⟨k, hk, rfl, rfl, hR⟩ := hrel
    have hR0 := hR
    obtain ⟨⟨cur, lv, hr⟩, hor⟩ := hR
    have t0 : wr.cell? ⟨r, 0, none⟩ = some (.slice (some ⟨g, 0, none⟩) D.bk.length cap) := by
      have := hr.top.1
      rw [mixed_length (comes_length _ _)] at this
      exact this
    by_cases hlt : k < D.bk.length
    · obtain ⟨x, hx⟩ : ∃ x, D.bk[k]? = some x := ⟨_, List.getElem?_eq_getElem hlt⟩
      have hx' : (mixed (comes D.bk l) D.bk k)[k]? = some x := by rw [mixed_at (comes_length _ _) hlt, hx]
      obtain ⟨a0, a1, x3, x4⟩ := hr.at hx'
      have hloose := hr.loose k x hx'
      have hkn : ((k : Int) < (D.bk.length : Int)) := by omega
      have hcs := cnt_succ hx
      obtain ⟨la, lc, hsh⟩ := hloose.shape
      rw [hsh] at a1
      have hlim := HS.out.1 k x hx
      have hcl := cnt_le D.bk k
      by_cases hl0 : x.loose = []
      · rw [if_pos hl0, Nat.add_zero] at hcs
        have h0 : x.loose.length = 0 := by rw [hl0]; rfl
        rw [h0] at a1
        have HE := Lib.hid (And.intro (hR0.skip hx hl0) hcs)
        generalize hS0 : str x.sure = S0 at *
        generalize hcc : cnt D.bk k = cc at *
        have HC := Lib.hid hcc
        clear hR0 hr hx hx' hloose hcs hl0 h0 hsh hor hS0 hcc
        go_wp2
        go_roundw
        case rel => exact ⟨k + 1, by omega, by rw [HE.out.2]; rfl, by go_num, HE.out.1⟩
        case measure => simp [intOf]; omega
      · rw [if_neg hl0] at hcs
        obtain ⟨m, hm⟩ : ∃ m, x.loose.length = m := ⟨_, rfl⟩
        have hm0 : 0 < m := by rw [← hm]; exact List.length_pos_iff.2 hl0
        rw [hm] at a1 hlim
        have hmn : (((m : Int)) == 0) = false := by rw [beq_eq_false_iff_ne]; omega
        have hturn := fun s hs => hR0.turn hx hl0 (s := s) hs
        have hcells := hloose.some (by rw [hm]; exact hm0)
        obtain ⟨lg, lc', hv2, hlcell⟩ := hcells
        have hvv := hsh.symm.trans hv2
        rw [hm] at hvv
        simp only [Value.slice.injEq, true_and] at hvv
        obtain ⟨rfl, rfl⟩ := hvv
        have hPle : pickAt l (cnt D.bk k) x.loose.length ≤ m := by rw [← hm]; exact pickN_le _ _
        have hpick : x.picked (pickAt l (cnt D.bk k) x.loose.length) = if pickAt l (cnt D.bk k) x.loose.length = 0 then x.sure else (x.loose[pickAt l (cnt D.bk k) x.loose.length - 1]?).getD x.sure := rfl
        by_cases hc : cnt D.bk k < l.length
        · obtain ⟨p, hp⟩ : ∃ p, l[cnt D.bk k]? = some p := ⟨_, List.getElem?_eq_getElem hc⟩
          have hiv : Iv wr (.slice a l.length pc) l := HV.out.kept fun q hq hl _ => hor.block q (by assumption) (HS.out.2 hl q hq)
          obtain ⟨pg, po, pc', e, hcell, hlo, hhi⟩ := hiv.open hp
          simp only [Value.slice.injEq, true_and] at e
          obtain ⟨rfl, rfl⟩ := e
          have hpk := (pickN_int p m).symm
          have hPe : pickAt l (cnt D.bk k) x.loose.length = pickN p m := by unfold pickAt; rw [hp, hm]; rfl
          rw [hPe] at hPle hpick
          rw [hPe] at hturn
          generalize pickN p m = P at *
          have hcl' : ((cnt D.bk k : Int) < (l.length : Int)) := by omega
          rcases P with _ | Q
          · rw [if_pos rfl] at hpick
            have HE := Lib.hid (And.intro (hturn _ hpick) hcs)
            generalize hcc : cnt D.bk k = cc at *
            have HC := Lib.hid (And.intro hcc (And.intro hm hsh))
            clear hR0 hr hx hx' hloose hcs hl0 hm hsh hor hcc hpick hPe hlcell hturn hp hiv hv2
            go_wp2
            go_roundw
            case rel => exact ⟨k + 1, by omega, by rw [HE.out.2]; go_num, by go_num, HE.out.1⟩
            case measure => simp [intOf]; omega
          · obtain ⟨y, hy⟩ : ∃ y, x.loose[Q]? = some y := ⟨_, List.getElem?_eq_getElem (by omega)⟩
            have hlc := hlcell Q y hy
            rw [if_neg (by omega), Nat.add_sub_cancel, hy, Option.getD_some] at hpick
            have hQm : ((Q : Int) < (m : Int)) := by omega
            have hpk' : max p 0 % ((m : Int) + 1) = (Q : Int) + 1 := by rw [hpk]; omega
            have HE := Lib.hid (And.intro (hturn _ hpick) hcs)
            generalize hcc : cnt D.bk k = cc at *
            have HC := Lib.hid (And.intro hcc (And.intro hm hsh))
            clear hR0 hr hx hx' hloose hcs hl0 hm hsh hor hcc hpick hPe hlcell hturn hp hiv hv2 hpk
            go_wp2
            go_roundw
            case rel => exact ⟨k + 1, by omega, by rw [HE.out.2]; go_num, by go_num, HE.out.1⟩
            case measure => simp [intOf]; omega
        · have hPe : pickAt l (cnt D.bk k) x.loose.length = 0 := by
            unfold pickAt
            rw [List.getElem?_eq_none (by omega)]
            exact pickN_zero _
          rw [hPe] at hpick
          rw [hPe] at hturn
          rw [if_pos rfl] at hpick
          have hcl' : decide ((cnt D.bk k : Int) < (l.length : Int)) = false := by simp; omega
          have HE := Lib.hid (And.intro (hturn _ hpick) hcs)
          generalize hcc : cnt D.bk k = cc at *
          have HC := Lib.hid (And.intro hcc (And.intro hm hsh))
          clear hR0 hr hx hx' hloose hcs hl0 hm hsh hor hcc hpick hPe hPle hlcell hturn hv2
          go_wp2
          go_roundw
          case rel => exact ⟨k + 1, by omega, by rw [HE.out.2]; go_num, by go_num, HE.out.1⟩
          case measure => simp [intOf]; omega
    · have e : k = D.bk.length := by omega
      have e1 : mixed (comes D.bk l) D.bk k = comes D.bk l := by rw [e]; exact mixed_all (comes_length _ _)
      rw [e1] at hr
      have q2 := (show Ref wr r ⟨comes D.bk l, D.on, D.left⟩ F from ⟨_, _, _, _, hr⟩)
      have z2 := ref_cell2 q2 true
      have z3 := ref_cell1 z2.1 (-1) (by omega) (by omega)
      obtain ⟨_, k1, k2, _, g1, g2⟩ := hr.top
      have hh := hr.head.set 2 (.bool true)
      have m1 := hh.cell 1
      have n1 := hh.frozen 1
      have HR := Lib.hid (And.intro z3.1 ((hor.trans (z2.2.mono (fun q _ e => e ▸ fr))).trans (z3.2.mono (fun q _ e => e ▸ fr))))
      clear hR0 hr hor e e1 q2 z2 z3 hh
      generalize cnt D.bk k = cc at *
      go_wp2
      go_ret
      exact ⟨rfl, HR.out⟩
end
end Go.Proofs.Ytcgecjedgbmmkaa
