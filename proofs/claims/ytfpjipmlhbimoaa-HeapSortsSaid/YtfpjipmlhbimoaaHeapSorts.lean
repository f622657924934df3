/- The statement HeapSorts: what is popped till there is no more is all that was pushed, each as often, in order; no condition. -/
import Derived.Test.YtfpjipmlhbimoaaHpTimes
namespace Go.Proofs.Ytfpjipmlhbimoaa
open Go.RowKit

theorem rt_ty2 : RowTy Try.prog kdTh 27 tRT := RowTy.of (z := .agg #[.int .i64 0, .int .i64 0]) (by' := 16) Try.underlying27 (by kernel_rfl) rfl (by decide)
/-- What was pushed is in l and li alike. -/
abbrev S3 (b : Nat) (l : List Th) (vi : Value) (li : List Th) (vo : Value) (lo : List Th) : Res := Sep (RH b l) (Sep (RO kdTh tRT vi li) (Sep (RO kdTh tRT vo lo) Emp))
abbrev frT (v : Value) (l : List Th) := RO.fr (K := kdTh) kdTh_bare tRT v l

def Rising (l : List Th) : Prop := ∀ i x y, l[i]? = some x → l[i + 1]? = some y → Le x y
theorem Rising.more {l : List Th} {x : Th} (h : Rising l) (hx : ∀ y ∈ l, Le y x) : Rising (l ++ [x]) := by
  intro i a b ha hb
  have hl := (List.getElem?_eq_some_iff.1 hb).1
  simp only [List.length_append, List.length_singleton] at hl
  rw [List.getElem?_append_left (by omega)] at ha
  by_cases e : i + 1 = l.length
  · rw [e, List.getElem?_append_right (Nat.le_refl _), Nat.sub_self] at hb
    cases hb
    exact hx a (List.mem_of_getElem? ha)
  · rw [List.getElem?_append_left (by omega)] at hb
    exact h i a b ha hb

set_option maxRecDepth 100000 in
set_option maxHeartbeats 4000000 in
theorem heapSorts_any (w : World) {kv bvv : Value} {ks : List Int} {bs : List UInt8} (hk : Iv w kv ks) (hbs : Bs w bvv bs) : Calls Try.prog 4 #[kv, bvv] w fun e w' => e = .returned (.bool true) ∧ Below w.heap.size w w' := by
  obtain ⟨ka, kc, rfl⟩ := hk.shape
  obtain ⟨ba, bc, rfl, _⟩ := hbs.shape
  obtain ⟨n, hn⟩ : ∃ n, n = ks.length := ⟨_, rfl⟩
  obtain ⟨nb, hnb⟩ : ∃ nb, nb = bs.length := ⟨_, rfl⟩
  rw [← hn] at hk ⊢
  rw [← hnb] at hbs ⊢
  by_cases hbig : 300 < n
  · have hb : (300 : Int) < (n : Int) := by omega
    clear hk hn hbs hnb
    go_enter Try.func4, Try.ntmps4
    go_wp2_with fail
    refine (works_any w).mono ?_
    rintro e w7 ⟨rfl, hb⟩
    go_wp2
    go_ret
    exact ⟨rfl, hb⟩
  by_cases hz : nb = 0
  · have hb : ¬ (300 : Int) < (n : Int) := by omega
    subst hz
    clear hk hn hbs hnb
    go_enter Try.func4, Try.ntmps4
    go_wp2_with fail
    refine (works_any w).mono ?_
    rintro e w7 ⟨rfl, hb⟩
    go_wp2
    go_ret
    exact ⟨rfl, hb⟩
  have hnb1 : (n : Int) ≤ 300 := by omega
  have hnb2 : ¬ (300 : Int) < (n : Int) := by omega
  have hnz : ¬ (nb : Int) = 0 := by omega
  have hnz' : nb ≠ 0 := hz
  have HK := Lib.hid (And.intro hk (And.intro hn (And.intro hbs (And.intro hnb hbig))))
  clear hk hn hbig hbs hnb hz
  go_enter Try.func4, Try.ntmps4
  go_wp2_with fail
  refine (q_new (SL.start w) Emp.fr).mono ?_
  rintro e w1 ⟨rfl, h⟩
  generalize w.heap.size = b at *
  have h1 := ((h.newRow kdTh_bare tRT ((RH.fr _ _).sep Emp.fr)).newRow kdTh_bare tRT ((frT _ _).sep ((RH.fr _ _).sep Emp.fr))).third
  have HS := Lib.hid h1
  clear h h1
  go_wp2
  go_loopw [6, 8] (fun vi j wr => ∃ (r : Nat) (l li : List Th), j = .int .i64 (r : Int) ∧ r ≤ n ∧ li.length = r ∧ li.Perm l ∧ SL w wr (S3 b l vi li (.slice none 0 0) [])) (fun _ j _ => n - (intOf j).toNat)
  case atStart => exact ⟨0, [], [], rfl, Nat.zero_le _, rfl, List.Perm.refl _, HS.out⟩
  case round =>
    obtain ⟨r, l, li, rfl, hr, hli, hp, hS⟩ := hrel
    obtain ⟨hk, hn, hbs, hnb, hbig⟩ := HK.out
    have frI : Fr (Sep (RO kdTh tRT u6 li) (Sep (RO kdTh tRT (.slice none 0 0) []) Emp)) := (frT _ _).sep ((frT _ _).sep Emp.fr)
    by_cases hlt : r < n
    · obtain ⟨u, hu⟩ : ∃ u, ks[r]? = some u := ⟨_, List.getElem?_eq_getElem (by omega)⟩
      have hml : r % nb < nb := Nat.mod_lt _ (by omega)
      obtain ⟨y, hy⟩ : ∃ y, bs[r % nb]? = some y := ⟨_, List.getElem?_eq_getElem (by omega)⟩
      have hk2 := hk.below hS.under
      have hb2 := hbs.below hS.under
      rw [hn] at hk2
      rw [hnb] at hb2
      obtain ⟨g, o, cap, e0, c0, _⟩ := hk2.open hu
      simp only [Value.slice.injEq] at e0
      obtain ⟨rfl, -, rfl⟩ := e0
      obtain ⟨g2, o2, cap2, e2, -, hbl, hbc⟩ := hb2.open (by omega)
      simp only [Value.slice.injEq] at e2
      obtain ⟨rfl, -, rfl⟩ := e2
      have c1 := hbc _ _ hy
      obtain ⟨m, hm⟩ : ∃ m, r % nb = m := ⟨_, rfl⟩
      rw [hm] at c1 hml
      have hmod : (r : Int).tmod (nb : Int) = (m : Int) := by rw [Int.tmod_eq_emod_of_nonneg (by omega)]; omega
      have hil : (r : Int) < (n : Int) := by omega
      have hr0 : (0 : Int) ≤ (r : Int) := by omega
      have hm0 : (0 : Int) ≤ (m : Int) := by omega
      have hmi : (m : Int) < (nb : Int) := by omega
      have c1 : wr.cell? ⟨g2, o2 + m, none⟩ = some (.int .u8 (y.toNat : Int)) := c1
      have hy255 : y.toNat ≤ 255 := Nat.le_of_lt_succ y.toNat_lt
      generalize y.toNat = z at *
      have hz0 : (0 : Int) ≤ (z : Int) := by omega
      have hzb : (z : Int) ≤ 255 := by omega
      have hcl := fun {a : Addr} {u : Value} {W : World} (hW : Below wr.heap.size wr W) (hc : wr.cell? a = some u) => (hW.cell (p := a) (World.block_lt_of_cell? wr _ hc)).trans hc
      have HX := Lib.hid (fun (W : World) (hW : Below wr.heap.size wr W) => And.intro (hcl hW c0) (hcl hW c1))
      have HP := Lib.hid (And.intro hlt (And.intro hli (And.intro hp (And.intro hr hp.length_eq))))
      have HS1 := Lib.hid hS
      clear hk hn hbs hnb hbig hk2 hb2 hu hy hm hcl c0 c1 hbc hbl hlt hli hp hr hS hy255
      go_wp2_with fail
      refine region_till 99 (fun W => Below wr.heap.size wr W) (by kernel_rfl) (below_drewN (Below.refl _ _) 1) (fun hS => ?_)
      refine take_till (i := 0) (some 33) (.slice (some ⟨g, o, none⟩) n kc) rfl rfl (by kernel_rfl) (by kernel_rfl) (by kernel_rfl) (by kernel_rfl) (by decide) (fun _ _ _ h => h) (by rfl) (fun W hW => ?_) hS ?_
      · obtain ⟨c0, c1⟩ := HX.out W hW
        clear hW
        go_simp
      simp only [Act.put, List.setIfInBounds_toArray, List.set_cons_zero, List.set_cons_succ]
      refine take_till (i := 1) (some 34) (.int .i64 (r : Int)) rfl rfl (by kernel_rfl) (by kernel_rfl) (by kernel_rfl) (by kernel_rfl) (by decide) (fun _ _ _ h => h) (by rfl) (fun W hW => ?_) hS ?_
      · obtain ⟨c0, c1⟩ := HX.out W hW
        clear hW
        go_simp
      simp only [Act.put, List.setIfInBounds_toArray, List.set_cons_zero, List.set_cons_succ]
      refine take_till (i := 2) (some 35) (.pointer (some ⟨g, o + r, none⟩)) rfl rfl (by kernel_rfl) (by kernel_rfl) (by kernel_rfl) (by kernel_rfl) (by decide) (fun _ _ _ h => h) (by rfl) (fun W hW => ?_) hS ?_
      · obtain ⟨c0, c1⟩ := HX.out W hW
        clear hW
        go_simp
      simp only [Act.put, List.setIfInBounds_toArray, List.set_cons_zero, List.set_cons_succ]
      refine take_till (i := 3) (some 36) (.int .i64 u) rfl rfl (by kernel_rfl) (by kernel_rfl) (by kernel_rfl) (by kernel_rfl) (by decide) (fun _ _ _ h => h) (by rfl) (fun W hW => ?_) hS ?_
      · obtain ⟨c0, c1⟩ := HX.out W hW
        clear hW
        go_simp
      simp only [Act.put, List.setIfInBounds_toArray, List.set_cons_zero, List.set_cons_succ]
      refine take_till (i := 4) (some 37) (.slice (some ⟨g2, o2, none⟩) nb bc) rfl rfl (by kernel_rfl) (by kernel_rfl) (by kernel_rfl) (by kernel_rfl) (by decide) (fun _ _ _ h => h) (by rfl) (fun W hW => ?_) hS ?_
      · obtain ⟨c0, c1⟩ := HX.out W hW
        clear hW
        go_simp
      simp only [Act.put, List.setIfInBounds_toArray, List.set_cons_zero, List.set_cons_succ]
      refine take_till (i := 5) (some 38) (.int .i64 (r : Int)) rfl rfl (by kernel_rfl) (by kernel_rfl) (by kernel_rfl) (by kernel_rfl) (by decide) (fun _ _ _ h => h) (by rfl) (fun W hW => ?_) hS ?_
      · obtain ⟨c0, c1⟩ := HX.out W hW
        clear hW
        go_simp
      simp only [Act.put, List.setIfInBounds_toArray, List.set_cons_zero, List.set_cons_succ]
      refine take_till (i := 6) (some 39) (.slice (some ⟨g2, o2, none⟩) nb bc) rfl rfl (by kernel_rfl) (by kernel_rfl) (by kernel_rfl) (by kernel_rfl) (by decide) (fun _ _ _ h => h) (by rfl) (fun W hW => ?_) hS ?_
      · obtain ⟨c0, c1⟩ := HX.out W hW
        clear hW
        go_simp
      simp only [Act.put, List.setIfInBounds_toArray, List.set_cons_zero, List.set_cons_succ]
      refine take_till (i := 7) (some 40) (.int .i64 (nb : Int)) rfl rfl (by kernel_rfl) (by kernel_rfl) (by kernel_rfl) (by kernel_rfl) (by decide) (fun _ _ _ h => h) (by rfl) (fun W hW => ?_) hS ?_
      · obtain ⟨c0, c1⟩ := HX.out W hW
        clear hW
        go_simp
      simp only [Act.put, List.setIfInBounds_toArray, List.set_cons_zero, List.set_cons_succ]
      refine take_till (i := 8) (some 41) (.int .i64 (m : Int)) rfl rfl (by kernel_rfl) (by kernel_rfl) (by kernel_rfl) (by kernel_rfl) (by decide) (fun _ _ _ h => h) (by rfl) (fun W hW => ?_) hS ?_
      · obtain ⟨c0, c1⟩ := HX.out W hW
        clear hW
        go_simp
      simp only [Act.put, List.setIfInBounds_toArray, List.set_cons_zero, List.set_cons_succ]
      refine take_till (i := 9) (some 42) (.pointer (some ⟨g2, o2 + m, none⟩)) rfl rfl (by kernel_rfl) (by kernel_rfl) (by kernel_rfl) (by kernel_rfl) (by decide) (fun _ _ _ h => h) (by rfl) (fun W hW => ?_) hS ?_
      · obtain ⟨c0, c1⟩ := HX.out W hW
        clear hW
        go_simp
      simp only [Act.put, List.setIfInBounds_toArray, List.set_cons_zero, List.set_cons_succ]
      refine take_till (i := 10) (some 43) (.int .u8 (z : Int)) rfl rfl (by kernel_rfl) (by kernel_rfl) (by kernel_rfl) (by kernel_rfl) (by decide) (fun _ _ _ h => h) (by rfl) (fun W hW => ?_) hS ?_
      · obtain ⟨c0, c1⟩ := HX.out W hW
        clear hW
        go_simp
      simp only [Act.put, List.setIfInBounds_toArray, List.set_cons_zero, List.set_cons_succ]
      refine take_till (i := 11) (some 44) (.int .i64 (z : Int)) rfl rfl (by kernel_rfl) (by kernel_rfl) (by kernel_rfl) (by kernel_rfl) (by decide) (fun _ _ _ h => h) (by rfl) (fun W hW => ?_) hS ?_
      · obtain ⟨c0, c1⟩ := HX.out W hW
        clear hW
        go_simp
        (rw [IntKind.wrap_i64]; omega)
      simp only [Act.put, List.setIfInBounds_toArray, List.set_cons_zero, List.set_cons_succ]
      refine take_till (i := 12) (some 45) (.agg #[.int .i64 u, .int .i64 (z : Int)]) rfl rfl (by kernel_rfl) (by kernel_rfl) (by kernel_rfl) (by kernel_rfl) (by decide) (fun _ _ _ h => h) (by rfl) (fun W hW => ?_) hS ?_
      · obtain ⟨c0, c1⟩ := HX.out W hW
        clear hW
        go_simp
      simp only [Act.put, List.setIfInBounds_toArray, List.set_cons_zero, List.set_cons_succ]
      have hSd := HS1.out.later ((RH.fr _ _).sep frI) (below_drewN (Below.refl wr.heap.size wr) 1)
      have hwd : Below wr.heap.size wr wr.drew := below_drewN (Below.refl _ _) 1
      refine next_till 13 (by kernel_rfl) rfl (fun K hK => ?_)
      go_simp
      have h1 : Below wr.heap.size wr (wr.drew.alloc (.cells #[.int .i64 0, .int .i64 0] tRT)) := hwd.alloc hwd.size _
      refine hK.out _ _ (fun _ => h1) ?_
      clear hK K
      have C1 := Cel.new wr.drew #[.int .i64 0, .int .i64 0] tRT
      have k0 := C1.cell 0
      have k1 := C1.cell 1
      have f0 := C1.frozen 0
      have f1 := C1.frozen 1
      have hpz : wr.drew.heap.size = wr.heap.size := rfl
      rw [hpz] at C1 k0 k1 f0 f1
      refine next_till 14 (by kernel_rfl) rfl (fun K hK => ?_)
      go_simp
      have hW3 : Below wr.heap.size wr (wr.alloc (.cells #[.int .i64 u, .int .i64 (z : Int)] tRT)).drew := ((Below.refl _ _).alloc (Nat.le_refl _) _).drew
      have C3 : Cel (wr.alloc (.cells #[.int .i64 u, .int .i64 (z : Int)] tRT)).drew wr.heap.size [.int .i64 u, .int .i64 (z : Int)] tRT := Cel.new wr #[.int .i64 u, .int .i64 (z : Int)] tRT
      refine hK.out _ _ (fun _ => hW3) ?_
      clear hK K
      have h3 := (HS1.out.addC ((RH.fr _ _).sep frI) hW3 C3 (Nat.le_refl _)).rot
      clear C1 k0 k1 f0 f1 hpz h1 hwd hSd C3 hS
      generalize (wr.alloc (.cells #[.int .i64 u, .int .i64 (z : Int)] tRT)).drew = W3 at *
      generalize wr.heap.size = p at *
      refine done_till (by kernel_rfl) ?_ _
      have frX : Fr (Sep (RC p [.int .i64 u, .int .i64 (z : Int)] tRT) (Sep (RO kdTh tRT u6 li) (Sep (RO kdTh tRT (.slice none 0 0) []) Emp))) := (RC.fr _ _ _).sep frI
      have k0 := h3.rot.cel.cell 0
      have k1 := h3.rot.cel.cell 1
      simp only [List.getElem?_cons_zero, List.getElem?_cons_succ] at k0 k1
      have P := q_push h3 frX u (z : Int) (by have := HP.out; omega)
      clear h3 hW3
      go_wp2_with fail
      refine P.mono ?_
      rintro e w4 ⟨rfl, h4⟩
      clear P k0 k1
      have P := q_len h4 frX
      have hlr : (((u, (z : Int)) :: l).length : Int) = (r : Int) + 1 := by
        have := HP.out
        simp only [List.length_cons]
        omega
      rw [hlr] at P
      have hrb : (r : Int) ≤ 300 := by omega
      clear h4 hlr
      go_wp2_with fail
      refine P.mono ?_
      rintro e w5 ⟨rfl, h5⟩
      clear P
      have k0 := h5.rot.cel.cell 0
      have k1 := h5.rot.cel.cell 1
      simp only [List.getElem?_cons_zero, List.getElem?_cons_succ] at k0 k1
      have h6 := h5.rot.drop.rot
      clear h5
      obtain ⟨F, hRO, hcl⟩ := h6.open ((RH.fr _ _).sep ((frT _ _).sep Emp.fr))
      obtain ⟨hro, hrd⟩ := hRO.lit kdTh_bare (u, (z : Int)) (cs := #[.int .i64 u, .int .i64 (z : Int)]) rfl
      have hlen : li.length + [(u, (z : Int))].length ≤ 4294967296 := by
        have := HP.out
        simp
        omega
      have HH := Lib.hid (And.intro hRO hcl)
      clear hRO hcl h6
      go_wp2_with (at_builtin; refine wpList_append_ro rt_ty2 rfl _ _ rfl rfl rfl hro hrd hlen ?_; intro v' w6 ro6 st6 gr6 lo6; have hP := Lib.hid (HH.out.1.more (u, (z : Int)) ro6 st6); clear ro6 st6 gr6 lo6 hro hrd)
      obtain ⟨F', m1, m2, m3⟩ := hP.out
      have h7 := Lib.hid (HH.out.2 _ _ _ m1 m2 m3).rot
      clear hP m1 m2 m3 HH
      go_roundw
      case rel => exact ⟨r + 1, _, _, by go_num, HP.out.1, by simp; exact HP.out.2.1, (List.perm_append_comm (l₁ := li) (l₂ := [(u, (z : Int))])).trans (HP.out.2.2.1.cons _), h7.out⟩
      case measure =>
        have := HP.out.1
        simp only [intOf]
        omega
    · obtain rfl : r = n := by omega
      have hil : ¬ (r : Int) < (r : Int) := by omega
      have HS2 := Lib.hid (And.intro hS (And.intro hp (And.intro hli hbig)))
      have hrb : (r : Int) ≤ 300 := by omega
      clear hk hn hbs hnb hbig hr hlt hS hp frI HS
      have hr0 : (0 : Int) ≤ (r : Int) := by omega
      go_wp2
      go_loopw [7, 10] (fun vo j wx => ∃ (q : Nat) (l2 lo : List Th), j = .int .i64 (q : Int) ∧ q ≤ r + 1 ∧ lo.length = min q r ∧ (lo ++ l2).Perm li ∧ Rising lo ∧ (∀ x ∈ lo, ∀ y ∈ l2, Le x y) ∧ SL w wx (S3 b l2 u6 li vo lo)) (fun _ j _ => r + 1 - (intOf j).toNat)
      case atStart => exact ⟨0, l, [], rfl, by omega, by simp, HS2.out.2.1.symm, fun i x y h => by simp at h, fun x hx => by simp at hx, HS2.out.1⟩
      case round =>
        obtain ⟨q, l2, lo, rfl, hq, hlo, hp2, hri, hle, hS⟩ := hrel
        have hlen2 : lo.length + l2.length = r := by
          have := hp2.length_eq
          rw [List.length_append] at this
          have := HS2.out.2.2.1
          omega
        have hq0 : (0 : Int) ≤ (q : Int) := by omega
        have frI : Fr (Sep (RO kdTh tRT u6 li) (Sep (RO kdTh tRT u7 lo) Emp)) := (frT _ _).sep ((frT _ _).sep Emp.fr)
        by_cases hqr : q < r
        · have hne : l2 ≠ [] := fun e => by
            subst e
            simp at hlen2
            omega
          obtain ⟨x, hx⟩ := fst_ex l2 hne
          have P := q_pop hS frI hx (by have := HS2.out.2.2.2; omega)
          have hqi : (q : Int) ≤ (r : Int) := by omega
          have hqj : (q : Int) < (r : Int) := by omega
          have HQ := Lib.hid (And.intro hqr (And.intro hlo (And.intro hp2 (And.intro hri (And.intro hle (And.intro hx hlen2))))))
          clear hS hq hqr hlo hp2 hri hle hlen2 hne hx
          obtain ⟨x1, x2⟩ := x
          go_wp2_with fail
          refine P.mono ?_
          rintro e w5 ⟨rfl, h5⟩
          clear P
          have h6 := h5.third
          clear h5
          obtain ⟨F, hRO, hcl⟩ := h6.open ((RH.fr _ _).sep ((frT _ _).sep Emp.fr))
          obtain ⟨hro, hrd⟩ := hRO.lit kdTh_bare (x1, x2) (cs := #[.int .i64 x1, .int .i64 x2]) rfl
          have hlen : lo.length + [(x1, x2)].length ≤ 4294967296 := by
            have := HQ.out.2.1
            have := HS2.out.2.2.2
            simp
            omega
          have HH := Lib.hid (And.intro hRO hcl)
          clear hRO hcl h6
          go_wp2_with (at_builtin; refine wpList_append_ro rt_ty2 rfl _ _ rfl rfl rfl hro hrd hlen ?_; intro v' w6 ro6 st6 gr6 lo6; have hP := Lib.hid (HH.out.1.more (x1, x2) ro6 st6); clear ro6 st6 gr6 lo6 hro hrd)
          obtain ⟨F', m1, m2, m3⟩ := hP.out
          have h7 := Lib.hid (HH.out.2 _ _ _ m1 m2 m3).back3
          clear hP m1 m2 m3 HH
          go_roundw
          case rel =>
            obtain ⟨hqr, hlo, hp2, hri, hle, hx, hlen2⟩ := HQ.out
            refine ⟨q + 1, _, _, by go_num, by omega, by simp; omega, ?_, hri.more (fun y hy => hle y hy _ hx.1), fun y hy z hz => ?_, h7.out⟩
            · rw [List.append_assoc]
              refine List.Perm.trans ?_ hp2
              exact ((List.perm_cons_erase hx.1).symm).append_left lo
            · have hz2 := List.mem_of_mem_erase hz
              rcases List.mem_append.1 hy with h | h
              · exact hle y h z hz2
              · rw [List.mem_singleton.1 h]
                exact hx.2 z hz2
          case measure =>
            have := HQ.out.1
            simp only [intOf]
            omega
        · by_cases hqe : q = r
          · subst hqe
            obtain rfl : l2 = [] := List.eq_nil_of_length_eq_zero (by omega)
            have P := q_pop0 hS frI
            have HQ := Lib.hid (And.intro hlo (And.intro hp2 (And.intro hri (And.intro hle hlen2))))
            have hqi : (q : Int) ≤ (q : Int) := by omega
            have hqj : ¬ (q : Int) < (q : Int) := by omega
            clear hS hlo hp2 hri hle hlen2 hqr hq
            go_wp2_with fail
            refine P.mono ?_
            rintro e w5 ⟨rfl, h5⟩
            have H5 := Lib.hid h5
            clear P h5
            go_wp2
            go_roundw
            case rel =>
              obtain ⟨hlo, hp2, hri, hle, hlen2⟩ := HQ.out
              exact ⟨q + 1, [], lo, by go_num, Nat.le_refl _, by omega, hp2, hri, fun x _ y hy => by simp at hy, H5.out⟩
            case measure =>
              simp only [intOf]
              omega
          · have hqe : q = r + 1 := by omega
            obtain rfl : l2 = [] := List.eq_nil_of_length_eq_zero (by omega)
            have hqi : ¬ (q : Int) ≤ (r : Int) := by omega
            rw [List.append_nil] at hp2
            have hlr : lo.length = r := by omega
            have hvo : ∃ va vc, u7 = .slice va r vc := by
              obtain ⟨F, h1, _⟩ := hS.third.one
              obtain ⟨va, vc, e, _⟩ := h1.1.shape
              rw [hlr] at e
              exact ⟨va, vc, e⟩
            have hvi : ∃ va vc, u6 = .slice va r vc := by
              obtain ⟨F, h1, _⟩ := hS.rot.one
              obtain ⟨va, vc, e, _⟩ := h1.1.shape
              rw [HS2.out.2.2.1] at e
              exact ⟨va, vc, e⟩
            obtain ⟨oa, oc, rfl⟩ := hvo
            obtain ⟨ia, ic, rfl⟩ := hvi
            have HQ := Lib.hid (And.intro hS (And.intro hp2 (And.intro hri hlr)))
            clear hS hlo hp2 hri hle hlen2 hqr hqe hq hlr frI
            go_wp2
            go_loopw [14] (fun j wx => ∃ q : Nat, j = .int .i64 (q : Int) ∧ q ≤ r ∧ SL w wx (S3 b [] (.slice ia r ic) li (.slice oa r oc) lo)) (fun j _ => r - (intOf j).toNat)
            case atStart => exact ⟨0, rfl, Nat.zero_le _, HQ.out.1⟩
            case round =>
              obtain ⟨q, rfl, hq, hS⟩ := hrel
              obtain ⟨-, hp2, hri, hlr⟩ := HQ.out
              by_cases hqr : q < r
              · obtain ⟨x, hx⟩ : ∃ x, lo[q]? = some x := ⟨_, List.getElem?_eq_getElem (by omega)⟩
                obtain ⟨F1, hr1, -⟩ := hS.rot.one
                obtain ⟨F2, hr2, -⟩ := hS.third.one
                have R1 := hr1.rd
                have R2 := hr2.rd
                obtain ⟨g, o, cap', e0, k0, k1⟩ := R2.th hx
                rw [hlr] at e0
                simp only [Value.slice.injEq] at e0
                obtain ⟨rfl, -, rfl⟩ := e0
                have hct : li.count x = lo.count x := (hp2.count_eq x).symm
                obtain ⟨x1, x2⟩ := x
                have T2 := Lib.hid (fun W (hW : Below wr.heap.size wr W) => times_any (R2.step (Step.of_below hW _)) (by have := HS2.out.2.2.2; omega) x1 x2)
                have T1 : Hid (∀ W, Below wr.heap.size wr W → _) := Lib.hid (fun W (hW : Below wr.heap.size wr W) => by have := times_any (R1.step (Step.of_below hW _)) (by have := HS2.out.2.2.2; have := HS2.out.2.2.1; omega) x1 x2; rw [hct] at this; exact this)
                have hil : (q : Int) < (r : Int) := by omega
                have hq0 : (0 : Int) ≤ (q : Int) := by omega
                have HP3 := Lib.hid (And.intro hqr hS)
                simp only at k0 k1
                have hcl := fun {a : Addr} {u : Value} {W : World} (hW : Below wr.heap.size wr W) (hc : wr.cell? a = some u) => (hW.cell (p := a) (World.block_lt_of_cell? wr _ hc)).trans hc
                by_cases hz : q = 0
                · subst hz
                  simp only [Nat.zero_mul, Nat.add_zero] at k0 k1
                  have HX := Lib.hid (fun (W : World) (hW : Below wr.heap.size wr W) => And.intro (hcl hW k0) (hcl hW k1))
                  clear hq hS hp2 hri hx hr1 hr2 R1 R2 hct hqr hcl k0 k1
                  go_wp2_with fail
                  refine region_till 99 (fun W => Below wr.heap.size wr W) (by kernel_rfl) (below_drewN (Below.refl _ _) 1) (fun hS => ?_)
                  refine take_till (i := 0) (some 97) (.int .i64 0) rfl rfl (by kernel_rfl) (by kernel_rfl) (by kernel_rfl) (by kernel_rfl) (by decide) (fun _ _ _ h => h) (by rfl) (fun W hW => ?_) hS ?_
                  · obtain ⟨k0, k1⟩ := HX.out W hW
                    clear hW
                    go_simp
                  simp only [Act.put, List.setIfInBounds_toArray, List.set_cons_zero, List.set_cons_succ]
                  refine take_till (i := 1) (some 98) (.bool false) rfl rfl (by kernel_rfl) (by kernel_rfl) (by kernel_rfl) (by kernel_rfl) (by decide) (fun _ _ _ h => h) (by rfl) (fun W hW => ?_) hS ?_
                  · obtain ⟨k0, k1⟩ := HX.out W hW
                    clear hW
                    go_simp
                  simp only [Act.put, List.setIfInBounds_toArray, List.set_cons_zero, List.set_cons_succ]
                  refine take_till (i := 2) (some 99) (.bool false) rfl rfl (by kernel_rfl) (by kernel_rfl) (by kernel_rfl) (by kernel_rfl) (by decide) (fun _ _ _ h => h) (by rfl) (fun W hW => ?_) hS ?_
                  · obtain ⟨k0, k1⟩ := HX.out W hW
                    clear hW
                    go_simp
                  simp only [Act.put, List.setIfInBounds_toArray, List.set_cons_zero, List.set_cons_succ]
                  refine skip_till (i := 3) (some 100) rfl rfl (by kernel_rfl) (by kernel_rfl) (by kernel_rfl) (by kernel_rfl) (by decide) (fun _ _ _ h => h) (by rfl) hS ?_
                  simp only [Act.put, List.setIfInBounds_toArray, List.set_cons_zero, List.set_cons_succ]
                  refine skip_till (i := 4) (some 101) rfl rfl (by kernel_rfl) (by kernel_rfl) (by kernel_rfl) (by kernel_rfl) (by decide) (fun _ _ _ h => h) (by rfl) hS ?_
                  simp only [Act.put, List.setIfInBounds_toArray, List.set_cons_zero, List.set_cons_succ]
                  refine skip_till (i := 5) (some 102) rfl rfl (by kernel_rfl) (by kernel_rfl) (by kernel_rfl) (by kernel_rfl) (by decide) (fun _ _ _ h => h) (by rfl) hS ?_
                  simp only [Act.put, List.setIfInBounds_toArray, List.set_cons_zero, List.set_cons_succ]
                  refine skip_till (i := 6) (some 103) rfl rfl (by kernel_rfl) (by kernel_rfl) (by kernel_rfl) (by kernel_rfl) (by decide) (fun _ _ _ h => h) (by rfl) hS ?_
                  simp only [Act.put, List.setIfInBounds_toArray, List.set_cons_zero, List.set_cons_succ]
                  refine skip_till (i := 7) (some 104) rfl rfl (by kernel_rfl) (by kernel_rfl) (by kernel_rfl) (by kernel_rfl) (by decide) (fun _ _ _ h => h) (by rfl) hS ?_
                  simp only [Act.put, List.setIfInBounds_toArray, List.set_cons_zero, List.set_cons_succ]
                  refine skip_till (i := 8) (some 105) rfl rfl (by kernel_rfl) (by kernel_rfl) (by kernel_rfl) (by kernel_rfl) (by decide) (fun _ _ _ h => h) (by rfl) hS ?_
                  simp only [Act.put, List.setIfInBounds_toArray, List.set_cons_zero, List.set_cons_succ]
                  refine skip_till (i := 9) (some 106) rfl rfl (by kernel_rfl) (by kernel_rfl) (by kernel_rfl) (by kernel_rfl) (by decide) (fun _ _ _ h => h) (by rfl) hS ?_
                  simp only [Act.put, List.setIfInBounds_toArray, List.set_cons_zero, List.set_cons_succ]
                  refine skip_till (i := 10) (some 107) rfl rfl (by kernel_rfl) (by kernel_rfl) (by kernel_rfl) (by kernel_rfl) (by decide) (fun _ _ _ h => h) (by rfl) hS ?_
                  simp only [Act.put, List.setIfInBounds_toArray, List.set_cons_zero, List.set_cons_succ]
                  refine skip_till (i := 11) (some 108) rfl rfl (by kernel_rfl) (by kernel_rfl) (by kernel_rfl) (by kernel_rfl) (by decide) (fun _ _ _ h => h) (by rfl) hS ?_
                  simp only [Act.put, List.setIfInBounds_toArray, List.set_cons_zero, List.set_cons_succ]
                  refine skip_till (i := 12) (some 109) rfl rfl (by kernel_rfl) (by kernel_rfl) (by kernel_rfl) (by kernel_rfl) (by decide) (fun _ _ _ h => h) (by rfl) hS ?_
                  simp only [Act.put, List.setIfInBounds_toArray, List.set_cons_zero, List.set_cons_succ]
                  refine skip_till (i := 13) (some 110) rfl rfl (by kernel_rfl) (by kernel_rfl) (by kernel_rfl) (by kernel_rfl) (by decide) (fun _ _ _ h => h) (by rfl) hS ?_
                  simp only [Act.put, List.setIfInBounds_toArray, List.set_cons_zero, List.set_cons_succ]
                  refine skip_till (i := 14) (some 111) rfl rfl (by kernel_rfl) (by kernel_rfl) (by kernel_rfl) (by kernel_rfl) (by decide) (fun _ _ _ h => h) (by rfl) hS ?_
                  simp only [Act.put, List.setIfInBounds_toArray, List.set_cons_zero, List.set_cons_succ]
                  refine skip_till (i := 15) (some 112) rfl rfl (by kernel_rfl) (by kernel_rfl) (by kernel_rfl) (by kernel_rfl) (by decide) (fun _ _ _ h => h) (by rfl) hS ?_
                  simp only [Act.put, List.setIfInBounds_toArray, List.set_cons_zero, List.set_cons_succ]
                  refine skip_till (i := 16) (some 113) rfl rfl (by kernel_rfl) (by kernel_rfl) (by kernel_rfl) (by kernel_rfl) (by decide) (fun _ _ _ h => h) (by rfl) hS ?_
                  simp only [Act.put, List.setIfInBounds_toArray, List.set_cons_zero, List.set_cons_succ]
                  refine skip_till (i := 17) (some 114) rfl rfl (by kernel_rfl) (by kernel_rfl) (by kernel_rfl) (by kernel_rfl) (by decide) (fun _ _ _ h => h) (by rfl) hS ?_
                  simp only [Act.put, List.setIfInBounds_toArray, List.set_cons_zero, List.set_cons_succ]
                  refine skip_till (i := 18) (some 115) rfl rfl (by kernel_rfl) (by kernel_rfl) (by kernel_rfl) (by kernel_rfl) (by decide) (fun _ _ _ h => h) (by rfl) hS ?_
                  simp only [Act.put, List.setIfInBounds_toArray, List.set_cons_zero, List.set_cons_succ]
                  refine skip_till (i := 19) (some 116) rfl rfl (by kernel_rfl) (by kernel_rfl) (by kernel_rfl) (by kernel_rfl) (by decide) (fun _ _ _ h => h) (by rfl) hS ?_
                  simp only [Act.put, List.setIfInBounds_toArray, List.set_cons_zero, List.set_cons_succ]
                  refine skip_till (i := 20) (some 117) rfl rfl (by kernel_rfl) (by kernel_rfl) (by kernel_rfl) (by kernel_rfl) (by decide) (fun _ _ _ h => h) (by rfl) hS ?_
                  simp only [Act.put, List.setIfInBounds_toArray, List.set_cons_zero, List.set_cons_succ]
                  refine skip_till (i := 21) (some 118) rfl rfl (by kernel_rfl) (by kernel_rfl) (by kernel_rfl) (by kernel_rfl) (by decide) (fun _ _ _ h => h) (by rfl) hS ?_
                  simp only [Act.put, List.setIfInBounds_toArray, List.set_cons_zero, List.set_cons_succ]
                  refine skip_till (i := 22) (some 119) rfl rfl (by kernel_rfl) (by kernel_rfl) (by kernel_rfl) (by kernel_rfl) (by decide) (fun _ _ _ h => h) (by rfl) hS ?_
                  simp only [Act.put, List.setIfInBounds_toArray, List.set_cons_zero, List.set_cons_succ]
                  refine skip_till (i := 23) (some 120) rfl rfl (by kernel_rfl) (by kernel_rfl) (by kernel_rfl) (by kernel_rfl) (by decide) (fun _ _ _ h => h) (by rfl) hS ?_
                  simp only [Act.put, List.setIfInBounds_toArray, List.set_cons_zero, List.set_cons_succ]
                  refine skip_till (i := 24) (some 121) rfl rfl (by kernel_rfl) (by kernel_rfl) (by kernel_rfl) (by kernel_rfl) (by decide) (fun _ _ _ h => h) (by rfl) hS ?_
                  simp only [Act.put, List.setIfInBounds_toArray, List.set_cons_zero, List.set_cons_succ]
                  refine skip_till (i := 25) (some 122) rfl rfl (by kernel_rfl) (by kernel_rfl) (by kernel_rfl) (by kernel_rfl) (by decide) (fun _ _ _ h => h) (by rfl) hS ?_
                  simp only [Act.put, List.setIfInBounds_toArray, List.set_cons_zero, List.set_cons_succ]
                  refine skip_till (i := 26) (some 123) rfl rfl (by kernel_rfl) (by kernel_rfl) (by kernel_rfl) (by kernel_rfl) (by decide) (fun _ _ _ h => h) (by rfl) hS ?_
                  simp only [Act.put, List.setIfInBounds_toArray, List.set_cons_zero, List.set_cons_succ]
                  refine skip_till (i := 27) (some 124) rfl rfl (by kernel_rfl) (by kernel_rfl) (by kernel_rfl) (by kernel_rfl) (by decide) (fun _ _ _ h => h) (by rfl) hS ?_
                  simp only [Act.put, List.setIfInBounds_toArray, List.set_cons_zero, List.set_cons_succ]
                  refine skip_till (i := 28) (some 125) rfl rfl (by kernel_rfl) (by kernel_rfl) (by kernel_rfl) (by kernel_rfl) (by decide) (fun _ _ _ h => h) (by rfl) hS ?_
                  simp only [Act.put, List.setIfInBounds_toArray, List.set_cons_zero, List.set_cons_succ]
                  refine skip_till (i := 29) (some 126) rfl rfl (by kernel_rfl) (by kernel_rfl) (by kernel_rfl) (by kernel_rfl) (by decide) (fun _ _ _ h => h) (by rfl) hS ?_
                  simp only [Act.put, List.setIfInBounds_toArray, List.set_cons_zero, List.set_cons_succ]
                  refine skip_till (i := 30) (some 127) rfl rfl (by kernel_rfl) (by kernel_rfl) (by kernel_rfl) (by kernel_rfl) (by decide) (fun _ _ _ h => h) (by rfl) hS ?_
                  simp only [Act.put, List.setIfInBounds_toArray, List.set_cons_zero, List.set_cons_succ]
                  refine skip_till (i := 31) (some 128) rfl rfl (by kernel_rfl) (by kernel_rfl) (by kernel_rfl) (by kernel_rfl) (by decide) (fun _ _ _ h => h) (by rfl) hS ?_
                  simp only [Act.put, List.setIfInBounds_toArray, List.set_cons_zero, List.set_cons_succ]
                  refine skip_till (i := 32) (some 129) rfl rfl (by kernel_rfl) (by kernel_rfl) (by kernel_rfl) (by kernel_rfl) (by decide) (fun _ _ _ h => h) (by rfl) hS ?_
                  simp only [Act.put, List.setIfInBounds_toArray, List.set_cons_zero, List.set_cons_succ]
                  refine skip_till (i := 33) (some 130) rfl rfl (by kernel_rfl) (by kernel_rfl) (by kernel_rfl) (by kernel_rfl) (by decide) (fun _ _ _ h => h) (by rfl) hS ?_
                  simp only [Act.put, List.setIfInBounds_toArray, List.set_cons_zero, List.set_cons_succ]
                  refine skip_till (i := 34) (some 131) rfl rfl (by kernel_rfl) (by kernel_rfl) (by kernel_rfl) (by kernel_rfl) (by decide) (fun _ _ _ h => h) (by rfl) hS ?_
                  simp only [Act.put, List.setIfInBounds_toArray, List.set_cons_zero, List.set_cons_succ]
                  refine skip_till (i := 35) (some 132) rfl rfl (by kernel_rfl) (by kernel_rfl) (by kernel_rfl) (by kernel_rfl) (by decide) (fun _ _ _ h => h) (by rfl) hS ?_
                  simp only [Act.put, List.setIfInBounds_toArray, List.set_cons_zero, List.set_cons_succ]
                  refine skip_till (i := 36) (some 133) rfl rfl (by kernel_rfl) (by kernel_rfl) (by kernel_rfl) (by kernel_rfl) (by decide) (fun _ _ _ h => h) (by rfl) hS ?_
                  simp only [Act.put, List.setIfInBounds_toArray, List.set_cons_zero, List.set_cons_succ]
                  refine skip_till (i := 37) (some 134) rfl rfl (by kernel_rfl) (by kernel_rfl) (by kernel_rfl) (by kernel_rfl) (by decide) (fun _ _ _ h => h) (by rfl) hS ?_
                  simp only [Act.put, List.setIfInBounds_toArray, List.set_cons_zero, List.set_cons_succ]
                  refine skip_till (i := 38) (some 135) rfl rfl (by kernel_rfl) (by kernel_rfl) (by kernel_rfl) (by kernel_rfl) (by decide) (fun _ _ _ h => h) (by rfl) hS ?_
                  simp only [Act.put, List.setIfInBounds_toArray, List.set_cons_zero, List.set_cons_succ]
                  refine skip_till (i := 39) (some 136) rfl rfl (by kernel_rfl) (by kernel_rfl) (by kernel_rfl) (by kernel_rfl) (by decide) (fun _ _ _ h => h) (by rfl) hS ?_
                  simp only [Act.put, List.setIfInBounds_toArray, List.set_cons_zero, List.set_cons_succ]
                  refine skip_till (i := 40) (some 137) rfl rfl (by kernel_rfl) (by kernel_rfl) (by kernel_rfl) (by kernel_rfl) (by decide) (fun _ _ _ h => h) (by rfl) hS ?_
                  simp only [Act.put, List.setIfInBounds_toArray, List.set_cons_zero, List.set_cons_succ]
                  refine skip_till (i := 41) (some 138) rfl rfl (by kernel_rfl) (by kernel_rfl) (by kernel_rfl) (by kernel_rfl) (by decide) (fun _ _ _ h => h) (by rfl) hS ?_
                  simp only [Act.put, List.setIfInBounds_toArray, List.set_cons_zero, List.set_cons_succ]
                  refine skip_till (i := 42) (some 139) rfl rfl (by kernel_rfl) (by kernel_rfl) (by kernel_rfl) (by kernel_rfl) (by decide) (fun _ _ _ h => h) (by rfl) hS ?_
                  simp only [Act.put, List.setIfInBounds_toArray, List.set_cons_zero, List.set_cons_succ]
                  refine take_till (i := 43) (some 140) (.bool false) rfl rfl (by kernel_rfl) (by kernel_rfl) (by kernel_rfl) (by kernel_rfl) (by decide) (fun _ _ _ h => h) (by rfl) (fun W hW => ?_) hS ?_
                  · obtain ⟨k0, k1⟩ := HX.out W hW
                    clear hW
                    go_simp
                  simp only [Act.put, List.setIfInBounds_toArray, List.set_cons_zero, List.set_cons_succ]
                  refine take_till (i := 44) (some 141) (.bool false) rfl rfl (by kernel_rfl) (by kernel_rfl) (by kernel_rfl) (by kernel_rfl) (by decide) (fun _ _ _ h => h) (by rfl) (fun W hW => ?_) hS ?_
                  · obtain ⟨k0, k1⟩ := HX.out W hW
                    clear hW
                    go_simp
                  simp only [Act.put, List.setIfInBounds_toArray, List.set_cons_zero, List.set_cons_succ]
                  refine take_till (i := 45) (some 142) (.slice ia r ic) rfl rfl (by kernel_rfl) (by kernel_rfl) (by kernel_rfl) (by kernel_rfl) (by decide) (fun _ _ _ h => h) (by rfl) (fun W hW => ?_) hS ?_
                  · obtain ⟨k0, k1⟩ := HX.out W hW
                    clear hW
                    go_simp
                  simp only [Act.put, List.setIfInBounds_toArray, List.set_cons_zero, List.set_cons_succ]
                  refine take_till (i := 46) (some 143) (.slice (some ⟨g, o, none⟩) r oc) rfl rfl (by kernel_rfl) (by kernel_rfl) (by kernel_rfl) (by kernel_rfl) (by decide) (fun _ _ _ h => h) (by rfl) (fun W hW => ?_) hS ?_
                  · obtain ⟨k0, k1⟩ := HX.out W hW
                    clear hW
                    go_simp
                  simp only [Act.put, List.setIfInBounds_toArray, List.set_cons_zero, List.set_cons_succ]
                  refine take_till (i := 47) (some 144) (.int .i64 0) rfl rfl (by kernel_rfl) (by kernel_rfl) (by kernel_rfl) (by kernel_rfl) (by decide) (fun _ _ _ h => h) (by rfl) (fun W hW => ?_) hS ?_
                  · obtain ⟨k0, k1⟩ := HX.out W hW
                    clear hW
                    go_simp
                  simp only [Act.put, List.setIfInBounds_toArray, List.set_cons_zero, List.set_cons_succ]
                  refine take_till (i := 48) (some 145) (.pointer (some ⟨g, o, none⟩)) rfl rfl (by kernel_rfl) (by kernel_rfl) (by kernel_rfl) (by kernel_rfl) (by decide) (fun _ _ _ h => h) (by rfl) (fun W hW => ?_) hS ?_
                  · obtain ⟨k0, k1⟩ := HX.out W hW
                    clear hW
                    go_simp
                  simp only [Act.put, List.setIfInBounds_toArray, List.set_cons_zero, List.set_cons_succ]
                  refine take_till (i := 49) (some 146) (.agg #[.int .i64 x1, .int .i64 x2]) rfl rfl (by kernel_rfl) (by kernel_rfl) (by kernel_rfl) (by kernel_rfl) (by decide) (fun _ _ _ h => h) (by rfl) (fun W hW => ?_) hS ?_
                  · obtain ⟨k0, k1⟩ := HX.out W hW
                    clear hW
                    go_simp
                  simp only [Act.put, List.setIfInBounds_toArray, List.set_cons_zero, List.set_cons_succ]
                  refine take_till (i := 51) (some 148) (.slice (some ⟨g, o, none⟩) r oc) rfl rfl (by kernel_rfl) (by kernel_rfl) (by kernel_rfl) (by kernel_rfl) (by decide) (fun _ _ _ h => h) (by rfl) (fun W hW => ?_) hS ?_
                  · obtain ⟨k0, k1⟩ := HX.out W hW
                    clear hW
                    go_simp
                  simp only [Act.put, List.setIfInBounds_toArray, List.set_cons_zero, List.set_cons_succ]
                  refine take_till (i := 52) (some 149) (.slice (some ⟨g, o, none⟩) r oc) rfl rfl (by kernel_rfl) (by kernel_rfl) (by kernel_rfl) (by kernel_rfl) (by decide) (fun _ _ _ h => h) (by rfl) (fun W hW => ?_) hS ?_
                  · obtain ⟨k0, k1⟩ := HX.out W hW
                    clear hW
                    go_simp
                  simp only [Act.put, List.setIfInBounds_toArray, List.set_cons_zero, List.set_cons_succ]
                  refine take_till (i := 53) (some 150) (.int .i64 0) rfl rfl (by kernel_rfl) (by kernel_rfl) (by kernel_rfl) (by kernel_rfl) (by decide) (fun _ _ _ h => h) (by rfl) (fun W hW => ?_) hS ?_
                  · obtain ⟨k0, k1⟩ := HX.out W hW
                    clear hW
                    go_simp
                  simp only [Act.put, List.setIfInBounds_toArray, List.set_cons_zero, List.set_cons_succ]
                  refine take_till (i := 54) (some 151) (.pointer (some ⟨g, o, none⟩)) rfl rfl (by kernel_rfl) (by kernel_rfl) (by kernel_rfl) (by kernel_rfl) (by decide) (fun _ _ _ h => h) (by rfl) (fun W hW => ?_) hS ?_
                  · obtain ⟨k0, k1⟩ := HX.out W hW
                    clear hW
                    go_simp
                  simp only [Act.put, List.setIfInBounds_toArray, List.set_cons_zero, List.set_cons_succ]
                  refine take_till (i := 55) (some 152) (.agg #[.int .i64 x1, .int .i64 x2]) rfl rfl (by kernel_rfl) (by kernel_rfl) (by kernel_rfl) (by kernel_rfl) (by decide) (fun _ _ _ h => h) (by rfl) (fun W hW => ?_) hS ?_
                  · obtain ⟨k0, k1⟩ := HX.out W hW
                    clear hW
                    go_simp
                  simp only [Act.put, List.setIfInBounds_toArray, List.set_cons_zero, List.set_cons_succ]
                  refine next_till 50 (by kernel_rfl) rfl (fun K hK => ?_)
                  go_simp
                  refine (T1.out _ hS).mono ?_
                  rintro e w3 ⟨rfl, hb3⟩
                  have hS3 := hS.trans (hb3.mono hS.size)
                  go_simp
                  refine hK.out _ _ (fun _ => hS3) ?_
                  clear hK K hS hb3
                  have hS := hS3
                  clear hS3
                  refine next_till 56 (by kernel_rfl) rfl (fun K hK => ?_)
                  go_simp
                  refine (T2.out _ hS).mono ?_
                  rintro e w4 ⟨rfl, hb3⟩
                  have hS3 := hS.trans (hb3.mono hS.size)
                  go_simp
                  refine hK.out _ _ (fun _ => hS3) ?_
                  clear hK K hS hb3
                  have hS := hS3
                  clear hS3
                  refine take_till (i := 57) (some 154) (.bool false) rfl rfl (by kernel_rfl) (by kernel_rfl) (by kernel_rfl) (by kernel_rfl) (by decide) (fun _ _ _ h => h) (by rfl) (fun W hW => ?_) hS ?_
                  · obtain ⟨k0, k1⟩ := HX.out W hW
                    clear hW
                    go_simp
                  simp only [Act.put, List.setIfInBounds_toArray, List.set_cons_zero, List.set_cons_succ]
                  refine take_till (i := 58) (some 155) (.bool false) rfl rfl (by kernel_rfl) (by kernel_rfl) (by kernel_rfl) (by kernel_rfl) (by decide) (fun _ _ _ h => h) (by rfl) (fun W hW => ?_) hS ?_
                  · obtain ⟨k0, k1⟩ := HX.out W hW
                    clear hW
                    go_simp
                  simp only [Act.put, List.setIfInBounds_toArray, List.set_cons_zero, List.set_cons_succ]
                  refine done_till (by kernel_rfl) ?_ _
                  have H5 := Lib.hid (HP3.out.2.later ((RH.fr _ _).sep ((frT _ _).sep ((frT _ _).sep Emp.fr))) hS)
                  clear hS
                  go_wp2
                  go_roundw
                  case rel => exact ⟨1, rfl, HP3.out.1, H5.out⟩
                  case measure =>
                    have := HP3.out.1
                    simp only [intOf]
                    omega
                · obtain ⟨q1, hq1⟩ : ∃ q1, q = q1 + 1 := ⟨q - 1, by omega⟩
                  obtain ⟨y, hy⟩ : ∃ y, lo[q1]? = some y := ⟨_, List.getElem?_eq_getElem (by omega)⟩
                  obtain ⟨g', o', cap', e0, i0, i1⟩ := R2.th hy
                  simp only [Value.slice.injEq, Option.some.injEq, Addr.mk.injEq, and_true] at e0
                  obtain ⟨⟨rfl, rfl⟩, -, -⟩ := e0
                  have hle := hri q1 _ _ hy (by rw [← hq1]; exact hx)
                  obtain ⟨y1, y2⟩ := y
                  unfold Le Ah at hle
                  simp only at hle i0 i1
                  have hq10 : (0 : Int) ≤ (q1 : Int) := by omega
                  have hq1r : (q1 : Int) < (r : Int) := by omega
                  have hqq : (q : Int) - 1 = (q1 : Int) := by omega
                  have hqp : (0 : Int) < (q : Int) := by omega
                  have hqn : 0 < q := by omega
                  have hg1 : ¬ x1 < y1 := by omega
                  have HX := Lib.hid (fun (W : World) (hW : Below wr.heap.size wr W) => And.intro (hcl hW k0) (And.intro (hcl hW k1) (And.intro (hcl hW i0) (hcl hW i1))))
                  clear hq hS hp2 hri hx hr1 hr2 R1 R2 hct hqr hcl k0 k1 hy hq1 hz i0 i1
                  go_wp2_with fail
                  refine region_till 99 (fun W => Below wr.heap.size wr W) (by kernel_rfl) (below_drewN (Below.refl _ _) 1) (fun hS => ?_)
                  refine take_till (i := 0) (some 97) (.int .i64 (q : Int)) rfl rfl (by kernel_rfl) (by kernel_rfl) (by kernel_rfl) (by kernel_rfl) (by decide) (fun _ _ _ h => h) (by rfl) (fun W hW => ?_) hS ?_
                  · obtain ⟨k0, k1, i0, i1⟩ := HX.out W hW
                    clear hW
                    go_simp
                  simp only [Act.put, List.setIfInBounds_toArray, List.set_cons_zero, List.set_cons_succ]
                  refine take_till (i := 1) (some 98) (.bool true) rfl rfl (by kernel_rfl) (by kernel_rfl) (by kernel_rfl) (by kernel_rfl) (by decide) (fun _ _ _ h => h) (by rfl) (fun W hW => ?_) hS ?_
                  · obtain ⟨k0, k1, i0, i1⟩ := HX.out W hW
                    clear hW
                    go_simp
                  simp only [Act.put, List.setIfInBounds_toArray, List.set_cons_zero, List.set_cons_succ]
                  refine take_till (i := 2) (some 99) (.bool true) rfl rfl (by kernel_rfl) (by kernel_rfl) (by kernel_rfl) (by kernel_rfl) (by decide) (fun _ _ _ h => h) (by rfl) (fun W hW => ?_) hS ?_
                  · obtain ⟨k0, k1, i0, i1⟩ := HX.out W hW
                    clear hW
                    go_simp
                  simp only [Act.put, List.setIfInBounds_toArray, List.set_cons_zero, List.set_cons_succ]
                  refine take_till (i := 3) (some 100) (.slice (some ⟨g, o, none⟩) r oc) rfl rfl (by kernel_rfl) (by kernel_rfl) (by kernel_rfl) (by kernel_rfl) (by decide) (fun _ _ _ h => h) (by rfl) (fun W hW => ?_) hS ?_
                  · obtain ⟨k0, k1, i0, i1⟩ := HX.out W hW
                    clear hW
                    go_simp
                  simp only [Act.put, List.setIfInBounds_toArray, List.set_cons_zero, List.set_cons_succ]
                  refine take_till (i := 4) (some 101) (.int .i64 (q : Int)) rfl rfl (by kernel_rfl) (by kernel_rfl) (by kernel_rfl) (by kernel_rfl) (by decide) (fun _ _ _ h => h) (by rfl) (fun W hW => ?_) hS ?_
                  · obtain ⟨k0, k1, i0, i1⟩ := HX.out W hW
                    clear hW
                    go_simp
                  simp only [Act.put, List.setIfInBounds_toArray, List.set_cons_zero, List.set_cons_succ]
                  refine take_till (i := 5) (some 102) (.int .i64 (q1 : Int)) rfl rfl (by kernel_rfl) (by kernel_rfl) (by kernel_rfl) (by kernel_rfl) (by decide) (fun _ _ _ h => h) (by rfl) (fun W hW => ?_) hS ?_
                  · obtain ⟨k0, k1, i0, i1⟩ := HX.out W hW
                    clear hW
                    go_simp
                    (rw [IntKind.wrap_i64]; omega)
                  simp only [Act.put, List.setIfInBounds_toArray, List.set_cons_zero, List.set_cons_succ]
                  refine take_till (i := 6) (some 103) (.pointer (some ⟨g, o + q1 * 2, none⟩)) rfl rfl (by kernel_rfl) (by kernel_rfl) (by kernel_rfl) (by kernel_rfl) (by decide) (fun _ _ _ h => h) (by rfl) (fun W hW => ?_) hS ?_
                  · obtain ⟨k0, k1, i0, i1⟩ := HX.out W hW
                    clear hW
                    go_simp
                  simp only [Act.put, List.setIfInBounds_toArray, List.set_cons_zero, List.set_cons_succ]
                  refine take_till (i := 7) (some 104) (.pointer (some ⟨g, o + q1 * 2, none⟩)) rfl rfl (by kernel_rfl) (by kernel_rfl) (by kernel_rfl) (by kernel_rfl) (by decide) (fun _ _ _ h => h) (by rfl) (fun W hW => ?_) hS ?_
                  · obtain ⟨k0, k1, i0, i1⟩ := HX.out W hW
                    clear hW
                    go_simp
                  simp only [Act.put, List.setIfInBounds_toArray, List.set_cons_zero, List.set_cons_succ]
                  refine take_till (i := 8) (some 105) (.int .i64 y1) rfl rfl (by kernel_rfl) (by kernel_rfl) (by kernel_rfl) (by kernel_rfl) (by decide) (fun _ _ _ h => h) (by rfl) (fun W hW => ?_) hS ?_
                  · obtain ⟨k0, k1, i0, i1⟩ := HX.out W hW
                    clear hW
                    go_simp
                  simp only [Act.put, List.setIfInBounds_toArray, List.set_cons_zero, List.set_cons_succ]
                  refine take_till (i := 9) (some 106) (.slice (some ⟨g, o, none⟩) r oc) rfl rfl (by kernel_rfl) (by kernel_rfl) (by kernel_rfl) (by kernel_rfl) (by decide) (fun _ _ _ h => h) (by rfl) (fun W hW => ?_) hS ?_
                  · obtain ⟨k0, k1, i0, i1⟩ := HX.out W hW
                    clear hW
                    go_simp
                  simp only [Act.put, List.setIfInBounds_toArray, List.set_cons_zero, List.set_cons_succ]
                  refine take_till (i := 10) (some 107) (.int .i64 (q : Int)) rfl rfl (by kernel_rfl) (by kernel_rfl) (by kernel_rfl) (by kernel_rfl) (by decide) (fun _ _ _ h => h) (by rfl) (fun W hW => ?_) hS ?_
                  · obtain ⟨k0, k1, i0, i1⟩ := HX.out W hW
                    clear hW
                    go_simp
                  simp only [Act.put, List.setIfInBounds_toArray, List.set_cons_zero, List.set_cons_succ]
                  refine take_till (i := 11) (some 108) (.pointer (some ⟨g, o + q * 2, none⟩)) rfl rfl (by kernel_rfl) (by kernel_rfl) (by kernel_rfl) (by kernel_rfl) (by decide) (fun _ _ _ h => h) (by rfl) (fun W hW => ?_) hS ?_
                  · obtain ⟨k0, k1, i0, i1⟩ := HX.out W hW
                    clear hW
                    go_simp
                  simp only [Act.put, List.setIfInBounds_toArray, List.set_cons_zero, List.set_cons_succ]
                  refine take_till (i := 12) (some 109) (.pointer (some ⟨g, o + q * 2, none⟩)) rfl rfl (by kernel_rfl) (by kernel_rfl) (by kernel_rfl) (by kernel_rfl) (by decide) (fun _ _ _ h => h) (by rfl) (fun W hW => ?_) hS ?_
                  · obtain ⟨k0, k1, i0, i1⟩ := HX.out W hW
                    clear hW
                    go_simp
                  simp only [Act.put, List.setIfInBounds_toArray, List.set_cons_zero, List.set_cons_succ]
                  refine take_till (i := 13) (some 110) (.int .i64 x1) rfl rfl (by kernel_rfl) (by kernel_rfl) (by kernel_rfl) (by kernel_rfl) (by decide) (fun _ _ _ h => h) (by rfl) (fun W hW => ?_) hS ?_
                  · obtain ⟨k0, k1, i0, i1⟩ := HX.out W hW
                    clear hW
                    go_simp
                  simp only [Act.put, List.setIfInBounds_toArray, List.set_cons_zero, List.set_cons_succ]
                  refine take_till (i := 14) (some 111) (.bool false) rfl rfl (by kernel_rfl) (by kernel_rfl) (by kernel_rfl) (by kernel_rfl) (by decide) (fun _ _ _ h => h) (by rfl) (fun W hW => ?_) hS ?_
                  · obtain ⟨k0, k1, i0, i1⟩ := HX.out W hW
                    clear hW
                    go_simp
                  simp only [Act.put, List.setIfInBounds_toArray, List.set_cons_zero, List.set_cons_succ]
                  refine take_till (i := 15) (some 112) (.bool false) rfl rfl (by kernel_rfl) (by kernel_rfl) (by kernel_rfl) (by kernel_rfl) (by decide) (fun _ _ _ h => h) (by rfl) (fun W hW => ?_) hS ?_
                  · obtain ⟨k0, k1, i0, i1⟩ := HX.out W hW
                    clear hW
                    go_simp
                  simp only [Act.put, List.setIfInBounds_toArray, List.set_cons_zero, List.set_cons_succ]
                  refine take_till (i := 16) (some 113) (.slice (some ⟨g, o, none⟩) r oc) rfl rfl (by kernel_rfl) (by kernel_rfl) (by kernel_rfl) (by kernel_rfl) (by decide) (fun _ _ _ h => h) (by rfl) (fun W hW => ?_) hS ?_
                  · obtain ⟨k0, k1, i0, i1⟩ := HX.out W hW
                    clear hW
                    go_simp
                  simp only [Act.put, List.setIfInBounds_toArray, List.set_cons_zero, List.set_cons_succ]
                  refine take_till (i := 17) (some 114) (.int .i64 (q : Int)) rfl rfl (by kernel_rfl) (by kernel_rfl) (by kernel_rfl) (by kernel_rfl) (by decide) (fun _ _ _ h => h) (by rfl) (fun W hW => ?_) hS ?_
                  · obtain ⟨k0, k1, i0, i1⟩ := HX.out W hW
                    clear hW
                    go_simp
                  simp only [Act.put, List.setIfInBounds_toArray, List.set_cons_zero, List.set_cons_succ]
                  refine take_till (i := 18) (some 115) (.int .i64 (q1 : Int)) rfl rfl (by kernel_rfl) (by kernel_rfl) (by kernel_rfl) (by kernel_rfl) (by decide) (fun _ _ _ h => h) (by rfl) (fun W hW => ?_) hS ?_
                  · obtain ⟨k0, k1, i0, i1⟩ := HX.out W hW
                    clear hW
                    go_simp
                    (rw [IntKind.wrap_i64]; omega)
                  simp only [Act.put, List.setIfInBounds_toArray, List.set_cons_zero, List.set_cons_succ]
                  refine take_till (i := 19) (some 116) (.pointer (some ⟨g, o + q1 * 2, none⟩)) rfl rfl (by kernel_rfl) (by kernel_rfl) (by kernel_rfl) (by kernel_rfl) (by decide) (fun _ _ _ h => h) (by rfl) (fun W hW => ?_) hS ?_
                  · obtain ⟨k0, k1, i0, i1⟩ := HX.out W hW
                    clear hW
                    go_simp
                  simp only [Act.put, List.setIfInBounds_toArray, List.set_cons_zero, List.set_cons_succ]
                  refine take_till (i := 20) (some 117) (.pointer (some ⟨g, o + q1 * 2, none⟩)) rfl rfl (by kernel_rfl) (by kernel_rfl) (by kernel_rfl) (by kernel_rfl) (by decide) (fun _ _ _ h => h) (by rfl) (fun W hW => ?_) hS ?_
                  · obtain ⟨k0, k1, i0, i1⟩ := HX.out W hW
                    clear hW
                    go_simp
                  simp only [Act.put, List.setIfInBounds_toArray, List.set_cons_zero, List.set_cons_succ]
                  refine take_till (i := 21) (some 118) (.int .i64 y1) rfl rfl (by kernel_rfl) (by kernel_rfl) (by kernel_rfl) (by kernel_rfl) (by decide) (fun _ _ _ h => h) (by rfl) (fun W hW => ?_) hS ?_
                  · obtain ⟨k0, k1, i0, i1⟩ := HX.out W hW
                    clear hW
                    go_simp
                  simp only [Act.put, List.setIfInBounds_toArray, List.set_cons_zero, List.set_cons_succ]
                  refine take_till (i := 22) (some 119) (.slice (some ⟨g, o, none⟩) r oc) rfl rfl (by kernel_rfl) (by kernel_rfl) (by kernel_rfl) (by kernel_rfl) (by decide) (fun _ _ _ h => h) (by rfl) (fun W hW => ?_) hS ?_
                  · obtain ⟨k0, k1, i0, i1⟩ := HX.out W hW
                    clear hW
                    go_simp
                  simp only [Act.put, List.setIfInBounds_toArray, List.set_cons_zero, List.set_cons_succ]
                  refine take_till (i := 23) (some 120) (.int .i64 (q : Int)) rfl rfl (by kernel_rfl) (by kernel_rfl) (by kernel_rfl) (by kernel_rfl) (by decide) (fun _ _ _ h => h) (by rfl) (fun W hW => ?_) hS ?_
                  · obtain ⟨k0, k1, i0, i1⟩ := HX.out W hW
                    clear hW
                    go_simp
                  simp only [Act.put, List.setIfInBounds_toArray, List.set_cons_zero, List.set_cons_succ]
                  refine take_till (i := 24) (some 121) (.pointer (some ⟨g, o + q * 2, none⟩)) rfl rfl (by kernel_rfl) (by kernel_rfl) (by kernel_rfl) (by kernel_rfl) (by decide) (fun _ _ _ h => h) (by rfl) (fun W hW => ?_) hS ?_
                  · obtain ⟨k0, k1, i0, i1⟩ := HX.out W hW
                    clear hW
                    go_simp
                  simp only [Act.put, List.setIfInBounds_toArray, List.set_cons_zero, List.set_cons_succ]
                  refine take_till (i := 25) (some 122) (.pointer (some ⟨g, o + q * 2, none⟩)) rfl rfl (by kernel_rfl) (by kernel_rfl) (by kernel_rfl) (by kernel_rfl) (by decide) (fun _ _ _ h => h) (by rfl) (fun W hW => ?_) hS ?_
                  · obtain ⟨k0, k1, i0, i1⟩ := HX.out W hW
                    clear hW
                    go_simp
                  simp only [Act.put, List.setIfInBounds_toArray, List.set_cons_zero, List.set_cons_succ]
                  refine take_till (i := 26) (some 123) (.int .i64 x1) rfl rfl (by kernel_rfl) (by kernel_rfl) (by kernel_rfl) (by kernel_rfl) (by decide) (fun _ _ _ h => h) (by rfl) (fun W hW => ?_) hS ?_
                  · obtain ⟨k0, k1, i0, i1⟩ := HX.out W hW
                    clear hW
                    go_simp
                  simp only [Act.put, List.setIfInBounds_toArray, List.set_cons_zero, List.set_cons_succ]
                  by_cases hyx : y1 = x1
                  · subst hyx
                    have hg2 : ¬ x2 < y2 := by omega
                    refine take_till (i := 27) (some 124) (.bool true) rfl rfl (by kernel_rfl) (by kernel_rfl) (by kernel_rfl) (by kernel_rfl) (by decide) (fun _ _ _ h => h) (by rfl) (fun W hW => ?_) hS ?_
                    · obtain ⟨k0, k1, i0, i1⟩ := HX.out W hW
                      clear hW
                      go_simp
                    simp only [Act.put, List.setIfInBounds_toArray, List.set_cons_zero, List.set_cons_succ]
                    refine take_till (i := 28) (some 125) (.bool true) rfl rfl (by kernel_rfl) (by kernel_rfl) (by kernel_rfl) (by kernel_rfl) (by decide) (fun _ _ _ h => h) (by rfl) (fun W hW => ?_) hS ?_
                    · obtain ⟨k0, k1, i0, i1⟩ := HX.out W hW
                      clear hW
                      go_simp
                    simp only [Act.put, List.setIfInBounds_toArray, List.set_cons_zero, List.set_cons_succ]
                    refine take_till (i := 29) (some 126) (.slice (some ⟨g, o, none⟩) r oc) rfl rfl (by kernel_rfl) (by kernel_rfl) (by kernel_rfl) (by kernel_rfl) (by decide) (fun _ _ _ h => h) (by rfl) (fun W hW => ?_) hS ?_
                    · obtain ⟨k0, k1, i0, i1⟩ := HX.out W hW
                      clear hW
                      go_simp
                    simp only [Act.put, List.setIfInBounds_toArray, List.set_cons_zero, List.set_cons_succ]
                    refine take_till (i := 30) (some 127) (.int .i64 (q : Int)) rfl rfl (by kernel_rfl) (by kernel_rfl) (by kernel_rfl) (by kernel_rfl) (by decide) (fun _ _ _ h => h) (by rfl) (fun W hW => ?_) hS ?_
                    · obtain ⟨k0, k1, i0, i1⟩ := HX.out W hW
                      clear hW
                      go_simp
                    simp only [Act.put, List.setIfInBounds_toArray, List.set_cons_zero, List.set_cons_succ]
                    refine take_till (i := 31) (some 128) (.int .i64 (q1 : Int)) rfl rfl (by kernel_rfl) (by kernel_rfl) (by kernel_rfl) (by kernel_rfl) (by decide) (fun _ _ _ h => h) (by rfl) (fun W hW => ?_) hS ?_
                    · obtain ⟨k0, k1, i0, i1⟩ := HX.out W hW
                      clear hW
                      go_simp
                      (rw [IntKind.wrap_i64]; omega)
                    simp only [Act.put, List.setIfInBounds_toArray, List.set_cons_zero, List.set_cons_succ]
                    refine take_till (i := 32) (some 129) (.pointer (some ⟨g, o + q1 * 2, none⟩)) rfl rfl (by kernel_rfl) (by kernel_rfl) (by kernel_rfl) (by kernel_rfl) (by decide) (fun _ _ _ h => h) (by rfl) (fun W hW => ?_) hS ?_
                    · obtain ⟨k0, k1, i0, i1⟩ := HX.out W hW
                      clear hW
                      go_simp
                    simp only [Act.put, List.setIfInBounds_toArray, List.set_cons_zero, List.set_cons_succ]
                    refine take_till (i := 33) (some 130) (.pointer (some ⟨g, o + q1 * 2 + 1, none⟩)) rfl rfl (by kernel_rfl) (by kernel_rfl) (by kernel_rfl) (by kernel_rfl) (by decide) (fun _ _ _ h => h) (by rfl) (fun W hW => ?_) hS ?_
                    · obtain ⟨k0, k1, i0, i1⟩ := HX.out W hW
                      clear hW
                      go_simp
                    simp only [Act.put, List.setIfInBounds_toArray, List.set_cons_zero, List.set_cons_succ]
                    refine take_till (i := 34) (some 131) (.int .i64 y2) rfl rfl (by kernel_rfl) (by kernel_rfl) (by kernel_rfl) (by kernel_rfl) (by decide) (fun _ _ _ h => h) (by rfl) (fun W hW => ?_) hS ?_
                    · obtain ⟨k0, k1, i0, i1⟩ := HX.out W hW
                      clear hW
                      go_simp
                    simp only [Act.put, List.setIfInBounds_toArray, List.set_cons_zero, List.set_cons_succ]
                    refine take_till (i := 35) (some 132) (.slice (some ⟨g, o, none⟩) r oc) rfl rfl (by kernel_rfl) (by kernel_rfl) (by kernel_rfl) (by kernel_rfl) (by decide) (fun _ _ _ h => h) (by rfl) (fun W hW => ?_) hS ?_
                    · obtain ⟨k0, k1, i0, i1⟩ := HX.out W hW
                      clear hW
                      go_simp
                    simp only [Act.put, List.setIfInBounds_toArray, List.set_cons_zero, List.set_cons_succ]
                    refine take_till (i := 36) (some 133) (.int .i64 (q : Int)) rfl rfl (by kernel_rfl) (by kernel_rfl) (by kernel_rfl) (by kernel_rfl) (by decide) (fun _ _ _ h => h) (by rfl) (fun W hW => ?_) hS ?_
                    · obtain ⟨k0, k1, i0, i1⟩ := HX.out W hW
                      clear hW
                      go_simp
                    simp only [Act.put, List.setIfInBounds_toArray, List.set_cons_zero, List.set_cons_succ]
                    refine take_till (i := 37) (some 134) (.pointer (some ⟨g, o + q * 2, none⟩)) rfl rfl (by kernel_rfl) (by kernel_rfl) (by kernel_rfl) (by kernel_rfl) (by decide) (fun _ _ _ h => h) (by rfl) (fun W hW => ?_) hS ?_
                    · obtain ⟨k0, k1, i0, i1⟩ := HX.out W hW
                      clear hW
                      go_simp
                    simp only [Act.put, List.setIfInBounds_toArray, List.set_cons_zero, List.set_cons_succ]
                    refine take_till (i := 38) (some 135) (.pointer (some ⟨g, o + q * 2 + 1, none⟩)) rfl rfl (by kernel_rfl) (by kernel_rfl) (by kernel_rfl) (by kernel_rfl) (by decide) (fun _ _ _ h => h) (by rfl) (fun W hW => ?_) hS ?_
                    · obtain ⟨k0, k1, i0, i1⟩ := HX.out W hW
                      clear hW
                      go_simp
                    simp only [Act.put, List.setIfInBounds_toArray, List.set_cons_zero, List.set_cons_succ]
                    refine take_till (i := 39) (some 136) (.int .i64 x2) rfl rfl (by kernel_rfl) (by kernel_rfl) (by kernel_rfl) (by kernel_rfl) (by decide) (fun _ _ _ h => h) (by rfl) (fun W hW => ?_) hS ?_
                    · obtain ⟨k0, k1, i0, i1⟩ := HX.out W hW
                      clear hW
                      go_simp
                    simp only [Act.put, List.setIfInBounds_toArray, List.set_cons_zero, List.set_cons_succ]
                    refine take_till (i := 40) (some 137) (.bool false) rfl rfl (by kernel_rfl) (by kernel_rfl) (by kernel_rfl) (by kernel_rfl) (by decide) (fun _ _ _ h => h) (by rfl) (fun W hW => ?_) hS ?_
                    · obtain ⟨k0, k1, i0, i1⟩ := HX.out W hW
                      clear hW
                      go_simp
                    simp only [Act.put, List.setIfInBounds_toArray, List.set_cons_zero, List.set_cons_succ]
                    refine take_till (i := 41) (some 138) (.bool false) rfl rfl (by kernel_rfl) (by kernel_rfl) (by kernel_rfl) (by kernel_rfl) (by decide) (fun _ _ _ h => h) (by rfl) (fun W hW => ?_) hS ?_
                    · obtain ⟨k0, k1, i0, i1⟩ := HX.out W hW
                      clear hW
                      go_simp
                    simp only [Act.put, List.setIfInBounds_toArray, List.set_cons_zero, List.set_cons_succ]
                    refine take_till (i := 42) (some 139) (.bool false) rfl rfl (by kernel_rfl) (by kernel_rfl) (by kernel_rfl) (by kernel_rfl) (by decide) (fun _ _ _ h => h) (by rfl) (fun W hW => ?_) hS ?_
                    · obtain ⟨k0, k1, i0, i1⟩ := HX.out W hW
                      clear hW
                      go_simp
                    simp only [Act.put, List.setIfInBounds_toArray, List.set_cons_zero, List.set_cons_succ]
                    refine take_till (i := 43) (some 140) (.bool false) rfl rfl (by kernel_rfl) (by kernel_rfl) (by kernel_rfl) (by kernel_rfl) (by decide) (fun _ _ _ h => h) (by rfl) (fun W hW => ?_) hS ?_
                    · obtain ⟨k0, k1, i0, i1⟩ := HX.out W hW
                      clear hW
                      go_simp
                    simp only [Act.put, List.setIfInBounds_toArray, List.set_cons_zero, List.set_cons_succ]
                    refine take_till (i := 44) (some 141) (.bool false) rfl rfl (by kernel_rfl) (by kernel_rfl) (by kernel_rfl) (by kernel_rfl) (by decide) (fun _ _ _ h => h) (by rfl) (fun W hW => ?_) hS ?_
                    · obtain ⟨k0, k1, i0, i1⟩ := HX.out W hW
                      clear hW
                      go_simp
                    simp only [Act.put, List.setIfInBounds_toArray, List.set_cons_zero, List.set_cons_succ]
                    refine take_till (i := 45) (some 142) (.slice ia r ic) rfl rfl (by kernel_rfl) (by kernel_rfl) (by kernel_rfl) (by kernel_rfl) (by decide) (fun _ _ _ h => h) (by rfl) (fun W hW => ?_) hS ?_
                    · obtain ⟨k0, k1, i0, i1⟩ := HX.out W hW
                      clear hW
                      go_simp
                    simp only [Act.put, List.setIfInBounds_toArray, List.set_cons_zero, List.set_cons_succ]
                    refine take_till (i := 46) (some 143) (.slice (some ⟨g, o, none⟩) r oc) rfl rfl (by kernel_rfl) (by kernel_rfl) (by kernel_rfl) (by kernel_rfl) (by decide) (fun _ _ _ h => h) (by rfl) (fun W hW => ?_) hS ?_
                    · obtain ⟨k0, k1, i0, i1⟩ := HX.out W hW
                      clear hW
                      go_simp
                    simp only [Act.put, List.setIfInBounds_toArray, List.set_cons_zero, List.set_cons_succ]
                    refine take_till (i := 47) (some 144) (.int .i64 (q : Int)) rfl rfl (by kernel_rfl) (by kernel_rfl) (by kernel_rfl) (by kernel_rfl) (by decide) (fun _ _ _ h => h) (by rfl) (fun W hW => ?_) hS ?_
                    · obtain ⟨k0, k1, i0, i1⟩ := HX.out W hW
                      clear hW
                      go_simp
                    simp only [Act.put, List.setIfInBounds_toArray, List.set_cons_zero, List.set_cons_succ]
                    refine take_till (i := 48) (some 145) (.pointer (some ⟨g, o + q * 2, none⟩)) rfl rfl (by kernel_rfl) (by kernel_rfl) (by kernel_rfl) (by kernel_rfl) (by decide) (fun _ _ _ h => h) (by rfl) (fun W hW => ?_) hS ?_
                    · obtain ⟨k0, k1, i0, i1⟩ := HX.out W hW
                      clear hW
                      go_simp
                    simp only [Act.put, List.setIfInBounds_toArray, List.set_cons_zero, List.set_cons_succ]
                    refine take_till (i := 49) (some 146) (.agg #[.int .i64 y1, .int .i64 x2]) rfl rfl (by kernel_rfl) (by kernel_rfl) (by kernel_rfl) (by kernel_rfl) (by decide) (fun _ _ _ h => h) (by rfl) (fun W hW => ?_) hS ?_
                    · obtain ⟨k0, k1, i0, i1⟩ := HX.out W hW
                      clear hW
                      go_simp
                    simp only [Act.put, List.setIfInBounds_toArray, List.set_cons_zero, List.set_cons_succ]
                    refine take_till (i := 51) (some 148) (.slice (some ⟨g, o, none⟩) r oc) rfl rfl (by kernel_rfl) (by kernel_rfl) (by kernel_rfl) (by kernel_rfl) (by decide) (fun _ _ _ h => h) (by rfl) (fun W hW => ?_) hS ?_
                    · obtain ⟨k0, k1, i0, i1⟩ := HX.out W hW
                      clear hW
                      go_simp
                    simp only [Act.put, List.setIfInBounds_toArray, List.set_cons_zero, List.set_cons_succ]
                    refine take_till (i := 52) (some 149) (.slice (some ⟨g, o, none⟩) r oc) rfl rfl (by kernel_rfl) (by kernel_rfl) (by kernel_rfl) (by kernel_rfl) (by decide) (fun _ _ _ h => h) (by rfl) (fun W hW => ?_) hS ?_
                    · obtain ⟨k0, k1, i0, i1⟩ := HX.out W hW
                      clear hW
                      go_simp
                    simp only [Act.put, List.setIfInBounds_toArray, List.set_cons_zero, List.set_cons_succ]
                    refine take_till (i := 53) (some 150) (.int .i64 (q : Int)) rfl rfl (by kernel_rfl) (by kernel_rfl) (by kernel_rfl) (by kernel_rfl) (by decide) (fun _ _ _ h => h) (by rfl) (fun W hW => ?_) hS ?_
                    · obtain ⟨k0, k1, i0, i1⟩ := HX.out W hW
                      clear hW
                      go_simp
                    simp only [Act.put, List.setIfInBounds_toArray, List.set_cons_zero, List.set_cons_succ]
                    refine take_till (i := 54) (some 151) (.pointer (some ⟨g, o + q * 2, none⟩)) rfl rfl (by kernel_rfl) (by kernel_rfl) (by kernel_rfl) (by kernel_rfl) (by decide) (fun _ _ _ h => h) (by rfl) (fun W hW => ?_) hS ?_
                    · obtain ⟨k0, k1, i0, i1⟩ := HX.out W hW
                      clear hW
                      go_simp
                    simp only [Act.put, List.setIfInBounds_toArray, List.set_cons_zero, List.set_cons_succ]
                    refine take_till (i := 55) (some 152) (.agg #[.int .i64 y1, .int .i64 x2]) rfl rfl (by kernel_rfl) (by kernel_rfl) (by kernel_rfl) (by kernel_rfl) (by decide) (fun _ _ _ h => h) (by rfl) (fun W hW => ?_) hS ?_
                    · obtain ⟨k0, k1, i0, i1⟩ := HX.out W hW
                      clear hW
                      go_simp
                    simp only [Act.put, List.setIfInBounds_toArray, List.set_cons_zero, List.set_cons_succ]
                    refine next_till 50 (by kernel_rfl) rfl (fun K hK => ?_)
                    go_simp
                    refine (T1.out _ hS).mono ?_
                    rintro e w3 ⟨rfl, hb3⟩
                    have hS3 := hS.trans (hb3.mono hS.size)
                    go_simp
                    refine hK.out _ _ (fun _ => hS3) ?_
                    clear hK K hS hb3
                    have hS := hS3
                    clear hS3
                    refine next_till 56 (by kernel_rfl) rfl (fun K hK => ?_)
                    go_simp
                    refine (T2.out _ hS).mono ?_
                    rintro e w4 ⟨rfl, hb3⟩
                    have hS3 := hS.trans (hb3.mono hS.size)
                    go_simp
                    refine hK.out _ _ (fun _ => hS3) ?_
                    clear hK K hS hb3
                    have hS := hS3
                    clear hS3
                    refine take_till (i := 57) (some 154) (.bool false) rfl rfl (by kernel_rfl) (by kernel_rfl) (by kernel_rfl) (by kernel_rfl) (by decide) (fun _ _ _ h => h) (by rfl) (fun W hW => ?_) hS ?_
                    · obtain ⟨k0, k1, i0, i1⟩ := HX.out W hW
                      clear hW
                      go_simp
                    simp only [Act.put, List.setIfInBounds_toArray, List.set_cons_zero, List.set_cons_succ]
                    refine take_till (i := 58) (some 155) (.bool false) rfl rfl (by kernel_rfl) (by kernel_rfl) (by kernel_rfl) (by kernel_rfl) (by decide) (fun _ _ _ h => h) (by rfl) (fun W hW => ?_) hS ?_
                    · obtain ⟨k0, k1, i0, i1⟩ := HX.out W hW
                      clear hW
                      go_simp
                    simp only [Act.put, List.setIfInBounds_toArray, List.set_cons_zero, List.set_cons_succ]
                    refine done_till (by kernel_rfl) ?_ _
                    have H5 := Lib.hid (HP3.out.2.later ((RH.fr _ _).sep ((frT _ _).sep ((frT _ _).sep Emp.fr))) hS)
                    clear hS
                    go_wp2
                    go_roundw
                    case rel => exact ⟨q + 1, by go_num, HP3.out.1, H5.out⟩
                    case measure =>
                      have := HP3.out.1
                      simp only [intOf]
                      omega
                  · skip
                    skip
                    refine take_till (i := 27) (some 124) (.bool false) rfl rfl (by kernel_rfl) (by kernel_rfl) (by kernel_rfl) (by kernel_rfl) (by decide) (fun _ _ _ h => h) (by rfl) (fun W hW => ?_) hS ?_
                    · obtain ⟨k0, k1, i0, i1⟩ := HX.out W hW
                      clear hW
                      go_simp
                    simp only [Act.put, List.setIfInBounds_toArray, List.set_cons_zero, List.set_cons_succ]
                    refine take_till (i := 28) (some 125) (.bool false) rfl rfl (by kernel_rfl) (by kernel_rfl) (by kernel_rfl) (by kernel_rfl) (by decide) (fun _ _ _ h => h) (by rfl) (fun W hW => ?_) hS ?_
                    · obtain ⟨k0, k1, i0, i1⟩ := HX.out W hW
                      clear hW
                      go_simp
                    simp only [Act.put, List.setIfInBounds_toArray, List.set_cons_zero, List.set_cons_succ]
                    refine skip_till (i := 29) (some 126) rfl rfl (by kernel_rfl) (by kernel_rfl) (by kernel_rfl) (by kernel_rfl) (by decide) (fun _ _ _ h => h) (by rfl) hS ?_
                    simp only [Act.put, List.setIfInBounds_toArray, List.set_cons_zero, List.set_cons_succ]
                    refine skip_till (i := 30) (some 127) rfl rfl (by kernel_rfl) (by kernel_rfl) (by kernel_rfl) (by kernel_rfl) (by decide) (fun _ _ _ h => h) (by rfl) hS ?_
                    simp only [Act.put, List.setIfInBounds_toArray, List.set_cons_zero, List.set_cons_succ]
                    refine skip_till (i := 31) (some 128) rfl rfl (by kernel_rfl) (by kernel_rfl) (by kernel_rfl) (by kernel_rfl) (by decide) (fun _ _ _ h => h) (by rfl) hS ?_
                    simp only [Act.put, List.setIfInBounds_toArray, List.set_cons_zero, List.set_cons_succ]
                    refine skip_till (i := 32) (some 129) rfl rfl (by kernel_rfl) (by kernel_rfl) (by kernel_rfl) (by kernel_rfl) (by decide) (fun _ _ _ h => h) (by rfl) hS ?_
                    simp only [Act.put, List.setIfInBounds_toArray, List.set_cons_zero, List.set_cons_succ]
                    refine skip_till (i := 33) (some 130) rfl rfl (by kernel_rfl) (by kernel_rfl) (by kernel_rfl) (by kernel_rfl) (by decide) (fun _ _ _ h => h) (by rfl) hS ?_
                    simp only [Act.put, List.setIfInBounds_toArray, List.set_cons_zero, List.set_cons_succ]
                    refine skip_till (i := 34) (some 131) rfl rfl (by kernel_rfl) (by kernel_rfl) (by kernel_rfl) (by kernel_rfl) (by decide) (fun _ _ _ h => h) (by rfl) hS ?_
                    simp only [Act.put, List.setIfInBounds_toArray, List.set_cons_zero, List.set_cons_succ]
                    refine skip_till (i := 35) (some 132) rfl rfl (by kernel_rfl) (by kernel_rfl) (by kernel_rfl) (by kernel_rfl) (by decide) (fun _ _ _ h => h) (by rfl) hS ?_
                    simp only [Act.put, List.setIfInBounds_toArray, List.set_cons_zero, List.set_cons_succ]
                    refine skip_till (i := 36) (some 133) rfl rfl (by kernel_rfl) (by kernel_rfl) (by kernel_rfl) (by kernel_rfl) (by decide) (fun _ _ _ h => h) (by rfl) hS ?_
                    simp only [Act.put, List.setIfInBounds_toArray, List.set_cons_zero, List.set_cons_succ]
                    refine skip_till (i := 37) (some 134) rfl rfl (by kernel_rfl) (by kernel_rfl) (by kernel_rfl) (by kernel_rfl) (by decide) (fun _ _ _ h => h) (by rfl) hS ?_
                    simp only [Act.put, List.setIfInBounds_toArray, List.set_cons_zero, List.set_cons_succ]
                    refine skip_till (i := 38) (some 135) rfl rfl (by kernel_rfl) (by kernel_rfl) (by kernel_rfl) (by kernel_rfl) (by decide) (fun _ _ _ h => h) (by rfl) hS ?_
                    simp only [Act.put, List.setIfInBounds_toArray, List.set_cons_zero, List.set_cons_succ]
                    refine skip_till (i := 39) (some 136) rfl rfl (by kernel_rfl) (by kernel_rfl) (by kernel_rfl) (by kernel_rfl) (by decide) (fun _ _ _ h => h) (by rfl) hS ?_
                    simp only [Act.put, List.setIfInBounds_toArray, List.set_cons_zero, List.set_cons_succ]
                    refine skip_till (i := 40) (some 137) rfl rfl (by kernel_rfl) (by kernel_rfl) (by kernel_rfl) (by kernel_rfl) (by decide) (fun _ _ _ h => h) (by rfl) hS ?_
                    simp only [Act.put, List.setIfInBounds_toArray, List.set_cons_zero, List.set_cons_succ]
                    refine take_till (i := 41) (some 138) (.bool false) rfl rfl (by kernel_rfl) (by kernel_rfl) (by kernel_rfl) (by kernel_rfl) (by decide) (fun _ _ _ h => h) (by rfl) (fun W hW => ?_) hS ?_
                    · obtain ⟨k0, k1, i0, i1⟩ := HX.out W hW
                      clear hW
                      go_simp
                    simp only [Act.put, List.setIfInBounds_toArray, List.set_cons_zero, List.set_cons_succ]
                    refine take_till (i := 42) (some 139) (.bool false) rfl rfl (by kernel_rfl) (by kernel_rfl) (by kernel_rfl) (by kernel_rfl) (by decide) (fun _ _ _ h => h) (by rfl) (fun W hW => ?_) hS ?_
                    · obtain ⟨k0, k1, i0, i1⟩ := HX.out W hW
                      clear hW
                      go_simp
                    simp only [Act.put, List.setIfInBounds_toArray, List.set_cons_zero, List.set_cons_succ]
                    refine take_till (i := 43) (some 140) (.bool false) rfl rfl (by kernel_rfl) (by kernel_rfl) (by kernel_rfl) (by kernel_rfl) (by decide) (fun _ _ _ h => h) (by rfl) (fun W hW => ?_) hS ?_
                    · obtain ⟨k0, k1, i0, i1⟩ := HX.out W hW
                      clear hW
                      go_simp
                    simp only [Act.put, List.setIfInBounds_toArray, List.set_cons_zero, List.set_cons_succ]
                    refine take_till (i := 44) (some 141) (.bool false) rfl rfl (by kernel_rfl) (by kernel_rfl) (by kernel_rfl) (by kernel_rfl) (by decide) (fun _ _ _ h => h) (by rfl) (fun W hW => ?_) hS ?_
                    · obtain ⟨k0, k1, i0, i1⟩ := HX.out W hW
                      clear hW
                      go_simp
                    simp only [Act.put, List.setIfInBounds_toArray, List.set_cons_zero, List.set_cons_succ]
                    refine take_till (i := 45) (some 142) (.slice ia r ic) rfl rfl (by kernel_rfl) (by kernel_rfl) (by kernel_rfl) (by kernel_rfl) (by decide) (fun _ _ _ h => h) (by rfl) (fun W hW => ?_) hS ?_
                    · obtain ⟨k0, k1, i0, i1⟩ := HX.out W hW
                      clear hW
                      go_simp
                    simp only [Act.put, List.setIfInBounds_toArray, List.set_cons_zero, List.set_cons_succ]
                    refine take_till (i := 46) (some 143) (.slice (some ⟨g, o, none⟩) r oc) rfl rfl (by kernel_rfl) (by kernel_rfl) (by kernel_rfl) (by kernel_rfl) (by decide) (fun _ _ _ h => h) (by rfl) (fun W hW => ?_) hS ?_
                    · obtain ⟨k0, k1, i0, i1⟩ := HX.out W hW
                      clear hW
                      go_simp
                    simp only [Act.put, List.setIfInBounds_toArray, List.set_cons_zero, List.set_cons_succ]
                    refine take_till (i := 47) (some 144) (.int .i64 (q : Int)) rfl rfl (by kernel_rfl) (by kernel_rfl) (by kernel_rfl) (by kernel_rfl) (by decide) (fun _ _ _ h => h) (by rfl) (fun W hW => ?_) hS ?_
                    · obtain ⟨k0, k1, i0, i1⟩ := HX.out W hW
                      clear hW
                      go_simp
                    simp only [Act.put, List.setIfInBounds_toArray, List.set_cons_zero, List.set_cons_succ]
                    refine take_till (i := 48) (some 145) (.pointer (some ⟨g, o + q * 2, none⟩)) rfl rfl (by kernel_rfl) (by kernel_rfl) (by kernel_rfl) (by kernel_rfl) (by decide) (fun _ _ _ h => h) (by rfl) (fun W hW => ?_) hS ?_
                    · obtain ⟨k0, k1, i0, i1⟩ := HX.out W hW
                      clear hW
                      go_simp
                    simp only [Act.put, List.setIfInBounds_toArray, List.set_cons_zero, List.set_cons_succ]
                    refine take_till (i := 49) (some 146) (.agg #[.int .i64 x1, .int .i64 x2]) rfl rfl (by kernel_rfl) (by kernel_rfl) (by kernel_rfl) (by kernel_rfl) (by decide) (fun _ _ _ h => h) (by rfl) (fun W hW => ?_) hS ?_
                    · obtain ⟨k0, k1, i0, i1⟩ := HX.out W hW
                      clear hW
                      go_simp
                    simp only [Act.put, List.setIfInBounds_toArray, List.set_cons_zero, List.set_cons_succ]
                    refine take_till (i := 51) (some 148) (.slice (some ⟨g, o, none⟩) r oc) rfl rfl (by kernel_rfl) (by kernel_rfl) (by kernel_rfl) (by kernel_rfl) (by decide) (fun _ _ _ h => h) (by rfl) (fun W hW => ?_) hS ?_
                    · obtain ⟨k0, k1, i0, i1⟩ := HX.out W hW
                      clear hW
                      go_simp
                    simp only [Act.put, List.setIfInBounds_toArray, List.set_cons_zero, List.set_cons_succ]
                    refine take_till (i := 52) (some 149) (.slice (some ⟨g, o, none⟩) r oc) rfl rfl (by kernel_rfl) (by kernel_rfl) (by kernel_rfl) (by kernel_rfl) (by decide) (fun _ _ _ h => h) (by rfl) (fun W hW => ?_) hS ?_
                    · obtain ⟨k0, k1, i0, i1⟩ := HX.out W hW
                      clear hW
                      go_simp
                    simp only [Act.put, List.setIfInBounds_toArray, List.set_cons_zero, List.set_cons_succ]
                    refine take_till (i := 53) (some 150) (.int .i64 (q : Int)) rfl rfl (by kernel_rfl) (by kernel_rfl) (by kernel_rfl) (by kernel_rfl) (by decide) (fun _ _ _ h => h) (by rfl) (fun W hW => ?_) hS ?_
                    · obtain ⟨k0, k1, i0, i1⟩ := HX.out W hW
                      clear hW
                      go_simp
                    simp only [Act.put, List.setIfInBounds_toArray, List.set_cons_zero, List.set_cons_succ]
                    refine take_till (i := 54) (some 151) (.pointer (some ⟨g, o + q * 2, none⟩)) rfl rfl (by kernel_rfl) (by kernel_rfl) (by kernel_rfl) (by kernel_rfl) (by decide) (fun _ _ _ h => h) (by rfl) (fun W hW => ?_) hS ?_
                    · obtain ⟨k0, k1, i0, i1⟩ := HX.out W hW
                      clear hW
                      go_simp
                    simp only [Act.put, List.setIfInBounds_toArray, List.set_cons_zero, List.set_cons_succ]
                    refine take_till (i := 55) (some 152) (.agg #[.int .i64 x1, .int .i64 x2]) rfl rfl (by kernel_rfl) (by kernel_rfl) (by kernel_rfl) (by kernel_rfl) (by decide) (fun _ _ _ h => h) (by rfl) (fun W hW => ?_) hS ?_
                    · obtain ⟨k0, k1, i0, i1⟩ := HX.out W hW
                      clear hW
                      go_simp
                    simp only [Act.put, List.setIfInBounds_toArray, List.set_cons_zero, List.set_cons_succ]
                    refine next_till 50 (by kernel_rfl) rfl (fun K hK => ?_)
                    go_simp
                    refine (T1.out _ hS).mono ?_
                    rintro e w3 ⟨rfl, hb3⟩
                    have hS3 := hS.trans (hb3.mono hS.size)
                    go_simp
                    refine hK.out _ _ (fun _ => hS3) ?_
                    clear hK K hS hb3
                    have hS := hS3
                    clear hS3
                    refine next_till 56 (by kernel_rfl) rfl (fun K hK => ?_)
                    go_simp
                    refine (T2.out _ hS).mono ?_
                    rintro e w4 ⟨rfl, hb3⟩
                    have hS3 := hS.trans (hb3.mono hS.size)
                    go_simp
                    refine hK.out _ _ (fun _ => hS3) ?_
                    clear hK K hS hb3
                    have hS := hS3
                    clear hS3
                    refine take_till (i := 57) (some 154) (.bool false) rfl rfl (by kernel_rfl) (by kernel_rfl) (by kernel_rfl) (by kernel_rfl) (by decide) (fun _ _ _ h => h) (by rfl) (fun W hW => ?_) hS ?_
                    · obtain ⟨k0, k1, i0, i1⟩ := HX.out W hW
                      clear hW
                      go_simp
                    simp only [Act.put, List.setIfInBounds_toArray, List.set_cons_zero, List.set_cons_succ]
                    refine take_till (i := 58) (some 155) (.bool false) rfl rfl (by kernel_rfl) (by kernel_rfl) (by kernel_rfl) (by kernel_rfl) (by decide) (fun _ _ _ h => h) (by rfl) (fun W hW => ?_) hS ?_
                    · obtain ⟨k0, k1, i0, i1⟩ := HX.out W hW
                      clear hW
                      go_simp
                    simp only [Act.put, List.setIfInBounds_toArray, List.set_cons_zero, List.set_cons_succ]
                    refine done_till (by kernel_rfl) ?_ _
                    have H5 := Lib.hid (HP3.out.2.later ((RH.fr _ _).sep ((frT _ _).sep ((frT _ _).sep Emp.fr))) hS)
                    clear hS
                    go_wp2
                    go_roundw
                    case rel => exact ⟨q + 1, by go_num, HP3.out.1, H5.out⟩
                    case measure =>
                      have := HP3.out.1
                      simp only [intOf]
                      omega
              · obtain rfl : q = r := by omega
                have hil : ¬ (q : Int) < (q : Int) := by omega
                have P := q_len hS ((frT _ _).sep ((frT _ _).sep Emp.fr))
                clear hS hp2 hri hlr hq hqr
                go_wp2_with fail
                refine P.mono ?_
                rintro e w5 ⟨rfl, h5⟩
                clear P
                go_wp2_with fail
                refine (works_any w5).mono ?_
                rintro e w7 ⟨rfl, hb7⟩
                go_wp2
                go_ret
                exact ⟨rfl, h5.under.trans (hb7.mono h5.under.size)⟩
end Go.Proofs.Ytfpjipmlhbimoaa
