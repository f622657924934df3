/- The statement HeapOrder: in whatever order things are pushed, the same ones are popped, one by one; no condition. -/
import Derived.Test.YtfpjipmlhbimoaaHpRow
namespace Go.Proofs.Ytfpjipmlhbimoaa
open Go.RowKit

def Rising (l : List Th) : Prop := ∀ i x y, l[i]? = some x → l[i + 1]? = some y → Le x y
theorem Rising.more {l : List Th} {x : Th} (h : Rising l) (hx : ∀ y ∈ l, Le y x) : Rising (l ++ [x]) := by
  intro i a b ha hb
  have hl := (List.getElem?_eq_some_iff.1 hb).1
  simp only [List.length_append, List.length_singleton] at hl
  rw [List.getElem?_append_left (by omega)] at ha
  by_cases e : i + 1 = l.length
  · rw [e, List.getElem?_append_right (Nat.le_refl _), Nat.sub_self] at hb
    cases hb
    exact hx a (List.mem_of_getElem? ha)
  · rw [List.getElem?_append_left (by omega)] at hb
    exact h i a b ha hb
/-- The numbers below n, turned round by s, are those numbers. -/
theorem turned_perm (n s : Nat) : ((List.range n).map fun i => (i + s) % n).Perm (List.range n) := by
  rcases Nat.eq_zero_or_pos n with e | hn
  · subst e
    exact List.Perm.refl _
  have hr := Nat.mod_lt s hn
  have e1 : ((List.range n).map fun i => (i + s) % n) = (List.range (n - s % n)).map (fun i => s % n + i) ++ List.range (s % n) := by
    apply List.ext_getElem
    · simp
      omega
    · intro i h1 h2
      simp only [List.length_map, List.length_range] at h1
      rw [List.getElem_map, List.getElem_range, ← Nat.add_mod_mod i s n]
      by_cases c : i < n - s % n
      · rw [List.getElem_append_left (by simpa using c), List.getElem_map, List.getElem_range, Nat.mod_eq_of_lt (by omega)]
        omega
      · rw [List.getElem_append_right (by simpa using c), List.getElem_range]
        simp only [List.length_map, List.length_range]
        rw [Nat.mod_eq_sub_mod (by omega), Nat.mod_eq_of_lt (by omega)]
        omega
  have e2 : List.range n = List.range (s % n) ++ (List.range (n - s % n)).map (fun i => s % n + i) := by
    rw [← List.range_add]
    congr 1
    omega
  rw [e1, e2]
  have e3 : List.range (s % n) ++ (List.range (n - s % n)).map (fun i => s % n + i) = List.range n := e2.symm
  exact List.perm_append_comm.trans (by rw [← e2] <;> exact List.Perm.refl _)
theorem back_perm (n : Nat) : ((List.range n).map fun i => n - 1 - i).Perm (List.range n) := by
  have : ((List.range n).map fun i => n - 1 - i) = (List.range n).reverse := by
    apply List.ext_getElem
    · simp
    · intro i h1 h2
      simp at h1
      simp
  rw [this]
  exact List.reverse_perm _
def turnJ (n s i : Nat) : Nat := n - 1 - (i + s) % n
theorem turnJ_perm (n s : Nat) : ((List.range n).map (turnJ n s)).Perm (List.range n) := by
  have h := (turned_perm n s).map (fun i => n - 1 - i)
  rw [List.map_map] at h
  exact h.trans (back_perm n)
/-- The i-th thing. -/
def thg (ks : List Int) (bs : List UInt8) (i : Nat) : Th := (ks.getD i 0, ((bs.getD (i % bs.length) 0).toNat : Nat))
abbrev tI64 : TypeId := 2
abbrev tInt : TypeId := 3
theorem i64_ty : RowTy Try.prog kdIn 39 tI64 := RowTy.of (z := .int .i64 0) (by' := 8) Try.underlying39 (by kernel_rfl) rfl (by decide)
theorem int_ty : RowTy Try.prog kdIn 47 tInt := RowTy.of (z := .int .i64 0) (by' := 8) Try.underlying47 (by kernel_rfl) rfl (by decide)
abbrev frI (e : TypeId) (v : Value) (l : List Int) := RO.fr (K := kdIn) kdIn_bare e v l
/-- Two heaps. -/
abbrev S2 (a b : Nat) (l m : List Th) : Res := Sep (RH a l) (Sep (RH b m) Emp)
theorem S2.fr (a b : Nat) (l m : List Th) : Fr (S2 a b l m) := (RH.fr _ _).sep ((RH.fr _ _).sep Emp.fr)
/-- .. and what was popped. -/
abbrev S4 (a b : Nat) (l m : List Th) (v1 v2 : Value) (lo : List Th) : Res := Sep (RH a l) (Sep (RH b m) (Sep (RO kdIn tI64 v1 (lo.map (·.1))) (Sep (RO kdIn tInt v2 (lo.map (·.2))) Emp)))
theorem S4.fr (a b : Nat) (l m : List Th) (v1 v2 : Value) (lo : List Th) : Fr (S4 a b l m v1 v2 lo) := (RH.fr _ _).sep ((RH.fr _ _).sep ((frI _ _ _).sep ((frI _ _ _).sep Emp.fr)))

set_option maxRecDepth 100000 in
set_option maxHeartbeats 4000000 in
theorem heapOrder_any (by' : Nat) (w : World) {kv bvv : Value} {ks : List Int} {bs : List UInt8} (hk : Iv w kv ks) (hbs : Bs w bvv bs) (hby : by' < 256) : Calls Try.prog 7 #[kv, bvv, .int .u8 (by' : Nat)] w fun e w' => e = .returned (.bool true) ∧ Below w.heap.size w w' := by
  obtain ⟨ka, kc, rfl⟩ := hk.shape
  obtain ⟨ba, bc, rfl, _⟩ := hbs.shape
  obtain ⟨n, hn⟩ : ∃ n, n = ks.length := ⟨_, rfl⟩
  obtain ⟨nb, hnb⟩ : ∃ nb, nb = bs.length := ⟨_, rfl⟩
  rw [← hn] at hk ⊢
  rw [← hnb] at hbs ⊢
  by_cases hbig : 80 < n
  · have hb : (80 : Int) < (n : Int) := by omega
    clear hk hn hbs hnb
    go_enter Try.func7, Try.ntmps7
    go_wp2_with fail
    refine (works_any w).mono ?_
    rintro e w7 ⟨rfl, hb⟩
    go_wp2
    go_ret
    exact ⟨rfl, hb⟩
  by_cases hz : nb = 0
  · have hb : ¬ (80 : Int) < (n : Int) := by omega
    subst hz
    clear hk hn hbs hnb
    go_enter Try.func7, Try.ntmps7
    go_wp2_with fail
    refine (works_any w).mono ?_
    rintro e w7 ⟨rfl, hb⟩
    go_wp2
    go_ret
    exact ⟨rfl, hb⟩
  have hnb1 : (n : Int) ≤ 80 := by omega
  have hnb2 : ¬ (80 : Int) < (n : Int) := by omega
  have hnz : ¬ (nb : Int) = 0 := by omega
  have hnz' : nb ≠ 0 := hz
  have hn00 : (0 : Int) ≤ (n : Int) := by omega
  have hby0 : (0 : Int) ≤ (by' : Int) := by omega
  have hbyb : (by' : Int) ≤ 255 := by omega
  have HK := Lib.hid (And.intro hk (And.intro hn (And.intro hbs (And.intro hnb hbig))))
  clear hk hn hbig hbs hnb hz hby
  go_enter Try.func7, Try.ntmps7
  go_wp2_with fail
  refine (q_new (SL.start w) Emp.fr).mono ?_
  rintro e w1 ⟨rfl, h⟩
  generalize w.heap.size = a at *
  go_wp2_with fail
  refine (q_new h ((RH.fr _ _).sep Emp.fr)).mono ?_
  rintro e w2 ⟨rfl, h2⟩
  generalize w1.heap.size = b at *
  have HS := Lib.hid h2.rot
  clear h h2
  go_wp2
  go_loopw [10] (fun j wr => ∃ r : Nat, j = .int .i64 (r : Int) ∧ r ≤ n ∧ SL w wr (S2 a b ((List.range r).map (thg ks bs)) (((List.range r).map (turnJ n by')).map (thg ks bs)))) (fun j _ => n - (intOf j).toNat)
  case atStart => exact ⟨0, rfl, Nat.zero_le _, HS.out⟩
  case round =>
    obtain ⟨r, rfl, hr, hS⟩ := hrel
    obtain ⟨hk, hn, hbs, hnb, hbig⟩ := HK.out
    by_cases hlt : r < n
    · obtain ⟨u, hu⟩ : ∃ u, ks[r]? = some u := ⟨_, List.getElem?_eq_getElem (by omega)⟩
      have hml : r % nb < nb := Nat.mod_lt _ (by omega)
      obtain ⟨y, hy⟩ : ∃ y, bs[r % nb]? = some y := ⟨_, List.getElem?_eq_getElem (by omega)⟩
      obtain ⟨kk, hkk⟩ : ∃ kk, (r + by') % n = kk := ⟨_, rfl⟩
      have hkl : kk < n := by rw [← hkk]; exact Nat.mod_lt _ (by omega)
      obtain ⟨jj, hjj⟩ : ∃ jj, turnJ n by' r = jj := ⟨_, rfl⟩
      have hjn : jj = n - 1 - kk := by rw [← hjj, ← hkk]; rfl
      obtain ⟨n1, hn1⟩ : ∃ n1, n1 = n - 1 := ⟨_, rfl⟩
      obtain ⟨u2, hu2⟩ : ∃ u2, ks[jj]? = some u2 := ⟨_, List.getElem?_eq_getElem (by omega)⟩
      have hml2 : jj % nb < nb := Nat.mod_lt _ (by omega)
      obtain ⟨y2, hy2⟩ : ∃ y2, bs[jj % nb]? = some y2 := ⟨_, List.getElem?_eq_getElem (by omega)⟩
      have ht1 : thg ks bs r = (u, ((y.toNat : Nat) : Int)) := by
        unfold thg
        rw [List.getD_eq_getElem?_getD, List.getD_eq_getElem?_getD, hu, ← hnb, hy]
        rfl
      have ht2 : thg ks bs jj = (u2, ((y2.toNat : Nat) : Int)) := by
        unfold thg
        rw [List.getD_eq_getElem?_getD, List.getD_eq_getElem?_getD, hu2, ← hnb, hy2]
        rfl
      have hrange1 : ((u, ((y.toNat : Nat) : Int)) :: (List.range r).map (thg ks bs)).Perm ((List.range (r + 1)).map (thg ks bs)) := by
        rw [List.range_succ, List.map_append, List.map_singleton, ht1]
        exact List.perm_append_comm (l₁ := [_])
      have hrange2 : ((u2, ((y2.toNat : Nat) : Int)) :: ((List.range r).map (turnJ n by')).map (thg ks bs)).Perm (((List.range (r + 1)).map (turnJ n by')).map (thg ks bs)) := by
        rw [List.range_succ, List.map_append, List.map_append, List.map_singleton, List.map_singleton, hjj, ht2]
        exact List.perm_append_comm (l₁ := [_])
      rw [hn] at hk
      rw [hnb] at hbs
      obtain ⟨g, o, cap, e0, c0, _⟩ := hk.open hu
      simp only [Value.slice.injEq] at e0
      obtain ⟨rfl, -, rfl⟩ := e0
      obtain ⟨g', o', cap', e0, d0, _⟩ := hk.open hu2
      simp only [Value.slice.injEq, Option.some.injEq, Addr.mk.injEq, and_true] at e0
      obtain ⟨⟨rfl, rfl⟩, -, -⟩ := e0
      obtain ⟨g2, o2, cap2, e2, -, hbl, hbc⟩ := hbs.open (by omega)
      simp only [Value.slice.injEq] at e2
      obtain ⟨rfl, -, rfl⟩ := e2
      have c1 := hbc _ _ hy
      have d1 := hbc _ _ hy2
      obtain ⟨m, hm⟩ : ∃ m, r % nb = m := ⟨_, rfl⟩
      obtain ⟨m2, hm2⟩ : ∃ m2, jj % nb = m2 := ⟨_, rfl⟩
      rw [hm] at c1 hml
      rw [hm2] at d1 hml2
      have hmod : (r : Int).tmod (nb : Int) = (m : Int) := by rw [Int.tmod_eq_emod_of_nonneg (by omega)]; omega
      have hmod2 : (jj : Int).tmod (nb : Int) = (m2 : Int) := by rw [Int.tmod_eq_emod_of_nonneg (by omega)]; omega
      have hmod3 : ((r : Int) + (by' : Int)).tmod (n : Int) = (kk : Int) := by
        have e : (r : Int) + (by' : Int) = ((r + by' : Nat) : Int) := by omega
        rw [e, Int.tmod_eq_emod_of_nonneg (by omega), ← hkk]
        omega
      have hil : (r : Int) < (n : Int) := by omega
      have hr0 : (0 : Int) ≤ (r : Int) := by omega
      have hm0 : (0 : Int) ≤ (m : Int) := by omega
      have hmi : (m : Int) < (nb : Int) := by omega
      have hm20 : (0 : Int) ≤ (m2 : Int) := by omega
      have hm2i : (m2 : Int) < (nb : Int) := by omega
      have hj0 : (0 : Int) ≤ (jj : Int) := by omega
      have hji : (jj : Int) < (n : Int) := by omega
      have hk0 : (0 : Int) ≤ (kk : Int) := by omega
      have hki : (kk : Int) < (n : Int) := by omega
      have hnn : ¬ (n : Int) = 0 := by omega
      have hn1i : (n : Int) - 1 = (n1 : Int) := by omega
      have hn10 : (0 : Int) ≤ (n1 : Int) := by omega
      have hn1b : (n1 : Int) ≤ 80 := by omega
      have hjk : (n1 : Int) - (kk : Int) = (jj : Int) := by omega
      have c1 : w.cell? ⟨g2, o2 + m, none⟩ = some (.int .u8 (y.toNat : Int)) := c1
      have d1 : w.cell? ⟨g2, o2 + m2, none⟩ = some (.int .u8 (y2.toNat : Int)) := d1
      have hy255 : y.toNat ≤ 255 := Nat.le_of_lt_succ y.toNat_lt
      have hy2255 : y2.toNat ≤ 255 := Nat.le_of_lt_succ y2.toNat_lt
      generalize y.toNat = z at *
      generalize y2.toNat = z2 at *
      have hz0 : (0 : Int) ≤ (z : Int) := by omega
      have hzb : (z : Int) ≤ 255 := by omega
      have hz20 : (0 : Int) ≤ (z2 : Int) := by omega
      have hz2b : (z2 : Int) ≤ 255 := by omega
      have hcl := fun {a : Addr} {u : Value} {W : World} (hW : Below w.heap.size w W) (hc : w.cell? a = some u) => (hW.cell (p := a) (World.block_lt_of_cell? w _ hc)).trans hc
      have HX := Lib.hid (fun (W : World) (hW : Below w.heap.size w W) => And.intro (hcl hW c0) (And.intro (hcl hW c1) (And.intro (hcl hW d0) (hcl hW d1))))
      have HP := Lib.hid (And.intro hlt (And.intro hrange1 (And.intro hrange2 (And.intro hr hbig))))
      have hbw := hS.under
      have HS1 := Lib.hid hS
      clear hk hn hbs hnb hbig hu hy hu2 hy2 ht1 ht2 hrange1 hrange2 hm hm2 hcl c0 c1 d0 d1 hbc hbl hlt hr hS hy255 hy2255 hkk hkl hjj hjn hml hml2 hn1
      go_wp2_with fail
      refine region_till 99 (fun W => Below w.heap.size w W) (by kernel_rfl) (below_drewN hbw 1) (fun hS => ?_)
      refine take_till (i := 0) (some 64) (.pointer (some ⟨a, 0, none⟩)) rfl rfl (by kernel_rfl) (by kernel_rfl) (by kernel_rfl) (by kernel_rfl) (by decide) (fun _ _ _ h => h) (by rfl) (fun W hW => ?_) hS ?_
      · obtain ⟨c0, c1, d0, d1⟩ := HX.out W hW
        clear hW
        go_simp
      simp only [Act.put, List.setIfInBounds_toArray, List.set_cons_zero, List.set_cons_succ]
      refine take_till (i := 1) (some 65) (.slice (some ⟨g, o, none⟩) n kc) rfl rfl (by kernel_rfl) (by kernel_rfl) (by kernel_rfl) (by kernel_rfl) (by decide) (fun _ _ _ h => h) (by rfl) (fun W hW => ?_) hS ?_
      · obtain ⟨c0, c1, d0, d1⟩ := HX.out W hW
        clear hW
        go_simp
      simp only [Act.put, List.setIfInBounds_toArray, List.set_cons_zero, List.set_cons_succ]
      refine take_till (i := 2) (some 66) (.int .i64 (r : Int)) rfl rfl (by kernel_rfl) (by kernel_rfl) (by kernel_rfl) (by kernel_rfl) (by decide) (fun _ _ _ h => h) (by rfl) (fun W hW => ?_) hS ?_
      · obtain ⟨c0, c1, d0, d1⟩ := HX.out W hW
        clear hW
        go_simp
      simp only [Act.put, List.setIfInBounds_toArray, List.set_cons_zero, List.set_cons_succ]
      refine take_till (i := 3) (some 67) (.pointer (some ⟨g, o + r, none⟩)) rfl rfl (by kernel_rfl) (by kernel_rfl) (by kernel_rfl) (by kernel_rfl) (by decide) (fun _ _ _ h => h) (by rfl) (fun W hW => ?_) hS ?_
      · obtain ⟨c0, c1, d0, d1⟩ := HX.out W hW
        clear hW
        go_simp
      simp only [Act.put, List.setIfInBounds_toArray, List.set_cons_zero, List.set_cons_succ]
      refine take_till (i := 4) (some 68) (.int .i64 u) rfl rfl (by kernel_rfl) (by kernel_rfl) (by kernel_rfl) (by kernel_rfl) (by decide) (fun _ _ _ h => h) (by rfl) (fun W hW => ?_) hS ?_
      · obtain ⟨c0, c1, d0, d1⟩ := HX.out W hW
        clear hW
        go_simp
      simp only [Act.put, List.setIfInBounds_toArray, List.set_cons_zero, List.set_cons_succ]
      refine take_till (i := 5) (some 69) (.slice (some ⟨g2, o2, none⟩) nb bc) rfl rfl (by kernel_rfl) (by kernel_rfl) (by kernel_rfl) (by kernel_rfl) (by decide) (fun _ _ _ h => h) (by rfl) (fun W hW => ?_) hS ?_
      · obtain ⟨c0, c1, d0, d1⟩ := HX.out W hW
        clear hW
        go_simp
      simp only [Act.put, List.setIfInBounds_toArray, List.set_cons_zero, List.set_cons_succ]
      refine take_till (i := 6) (some 70) (.int .i64 (r : Int)) rfl rfl (by kernel_rfl) (by kernel_rfl) (by kernel_rfl) (by kernel_rfl) (by decide) (fun _ _ _ h => h) (by rfl) (fun W hW => ?_) hS ?_
      · obtain ⟨c0, c1, d0, d1⟩ := HX.out W hW
        clear hW
        go_simp
      simp only [Act.put, List.setIfInBounds_toArray, List.set_cons_zero, List.set_cons_succ]
      refine take_till (i := 7) (some 71) (.slice (some ⟨g2, o2, none⟩) nb bc) rfl rfl (by kernel_rfl) (by kernel_rfl) (by kernel_rfl) (by kernel_rfl) (by decide) (fun _ _ _ h => h) (by rfl) (fun W hW => ?_) hS ?_
      · obtain ⟨c0, c1, d0, d1⟩ := HX.out W hW
        clear hW
        go_simp
      simp only [Act.put, List.setIfInBounds_toArray, List.set_cons_zero, List.set_cons_succ]
      refine take_till (i := 8) (some 72) (.int .i64 (nb : Int)) rfl rfl (by kernel_rfl) (by kernel_rfl) (by kernel_rfl) (by kernel_rfl) (by decide) (fun _ _ _ h => h) (by rfl) (fun W hW => ?_) hS ?_
      · obtain ⟨c0, c1, d0, d1⟩ := HX.out W hW
        clear hW
        go_simp
      simp only [Act.put, List.setIfInBounds_toArray, List.set_cons_zero, List.set_cons_succ]
      refine take_till (i := 9) (some 73) (.int .i64 (m : Int)) rfl rfl (by kernel_rfl) (by kernel_rfl) (by kernel_rfl) (by kernel_rfl) (by decide) (fun _ _ _ h => h) (by rfl) (fun W hW => ?_) hS ?_
      · obtain ⟨c0, c1, d0, d1⟩ := HX.out W hW
        clear hW
        go_simp
      simp only [Act.put, List.setIfInBounds_toArray, List.set_cons_zero, List.set_cons_succ]
      refine take_till (i := 10) (some 74) (.pointer (some ⟨g2, o2 + m, none⟩)) rfl rfl (by kernel_rfl) (by kernel_rfl) (by kernel_rfl) (by kernel_rfl) (by decide) (fun _ _ _ h => h) (by rfl) (fun W hW => ?_) hS ?_
      · obtain ⟨c0, c1, d0, d1⟩ := HX.out W hW
        clear hW
        go_simp
      simp only [Act.put, List.setIfInBounds_toArray, List.set_cons_zero, List.set_cons_succ]
      refine take_till (i := 11) (some 75) (.int .u8 (z : Int)) rfl rfl (by kernel_rfl) (by kernel_rfl) (by kernel_rfl) (by kernel_rfl) (by decide) (fun _ _ _ h => h) (by rfl) (fun W hW => ?_) hS ?_
      · obtain ⟨c0, c1, d0, d1⟩ := HX.out W hW
        clear hW
        go_simp
      simp only [Act.put, List.setIfInBounds_toArray, List.set_cons_zero, List.set_cons_succ]
      refine take_till (i := 12) (some 76) (.int .i64 (z : Int)) rfl rfl (by kernel_rfl) (by kernel_rfl) (by kernel_rfl) (by kernel_rfl) (by decide) (fun _ _ _ h => h) (by rfl) (fun W hW => ?_) hS ?_
      · obtain ⟨c0, c1, d0, d1⟩ := HX.out W hW
        clear hW
        go_simp
        (rw [IntKind.wrap_i64]; omega)
      simp only [Act.put, List.setIfInBounds_toArray, List.set_cons_zero, List.set_cons_succ]
      have hSd := HS1.out.later (S2.fr _ _ _ _) (below_drewN (Below.refl _ _) 1)
      have P := q_push hSd ((RH.fr _ _).sep Emp.fr) u (z : Int) (by have := HP.out; simp; omega)
      refine next_till 13 (by kernel_rfl) rfl (fun K hK => ?_)
      go_simp
      refine P.mono ?_
      rintro e w3 ⟨rfl, h3⟩
      go_simp
      refine hK.out _ _ (fun _ => h3.under) ?_
      clear hK K hS P
      have hS := h3.under
      have H3 := Lib.hid (h3.permH HP.out.2.1).rot
      clear h3 hSd
      refine take_till (i := 14) (some 78) (.bool false) rfl rfl (by kernel_rfl) (by kernel_rfl) (by kernel_rfl) (by kernel_rfl) (by decide) (fun _ _ _ h => h) (by rfl) (fun W hW => ?_) hS ?_
      · obtain ⟨c0, c1, d0, d1⟩ := HX.out W hW
        clear hW
        go_simp
      simp only [Act.put, List.setIfInBounds_toArray, List.set_cons_zero, List.set_cons_succ]
      refine take_till (i := 15) (some 79) (.bool false) rfl rfl (by kernel_rfl) (by kernel_rfl) (by kernel_rfl) (by kernel_rfl) (by decide) (fun _ _ _ h => h) (by rfl) (fun W hW => ?_) hS ?_
      · obtain ⟨c0, c1, d0, d1⟩ := HX.out W hW
        clear hW
        go_simp
      simp only [Act.put, List.setIfInBounds_toArray, List.set_cons_zero, List.set_cons_succ]
      refine take_till (i := 16) (some 80) (.pointer (some ⟨b, 0, none⟩)) rfl rfl (by kernel_rfl) (by kernel_rfl) (by kernel_rfl) (by kernel_rfl) (by decide) (fun _ _ _ h => h) (by rfl) (fun W hW => ?_) hS ?_
      · obtain ⟨c0, c1, d0, d1⟩ := HX.out W hW
        clear hW
        go_simp
      simp only [Act.put, List.setIfInBounds_toArray, List.set_cons_zero, List.set_cons_succ]
      refine take_till (i := 17) (some 81) (.slice (some ⟨g, o, none⟩) n kc) rfl rfl (by kernel_rfl) (by kernel_rfl) (by kernel_rfl) (by kernel_rfl) (by decide) (fun _ _ _ h => h) (by rfl) (fun W hW => ?_) hS ?_
      · obtain ⟨c0, c1, d0, d1⟩ := HX.out W hW
        clear hW
        go_simp
      simp only [Act.put, List.setIfInBounds_toArray, List.set_cons_zero, List.set_cons_succ]
      refine take_till (i := 18) (some 82) (.int .i64 (jj : Int)) rfl rfl (by kernel_rfl) (by kernel_rfl) (by kernel_rfl) (by kernel_rfl) (by decide) (fun _ _ _ h => h) (by rfl) (fun W hW => ?_) hS ?_
      · obtain ⟨c0, c1, d0, d1⟩ := HX.out W hW
        clear hW
        go_simp
      simp only [Act.put, List.setIfInBounds_toArray, List.set_cons_zero, List.set_cons_succ]
      refine take_till (i := 19) (some 83) (.pointer (some ⟨g, o + jj, none⟩)) rfl rfl (by kernel_rfl) (by kernel_rfl) (by kernel_rfl) (by kernel_rfl) (by decide) (fun _ _ _ h => h) (by rfl) (fun W hW => ?_) hS ?_
      · obtain ⟨c0, c1, d0, d1⟩ := HX.out W hW
        clear hW
        go_simp
      simp only [Act.put, List.setIfInBounds_toArray, List.set_cons_zero, List.set_cons_succ]
      refine take_till (i := 20) (some 84) (.int .i64 u2) rfl rfl (by kernel_rfl) (by kernel_rfl) (by kernel_rfl) (by kernel_rfl) (by decide) (fun _ _ _ h => h) (by rfl) (fun W hW => ?_) hS ?_
      · obtain ⟨c0, c1, d0, d1⟩ := HX.out W hW
        clear hW
        go_simp
      simp only [Act.put, List.setIfInBounds_toArray, List.set_cons_zero, List.set_cons_succ]
      refine take_till (i := 21) (some 85) (.slice (some ⟨g2, o2, none⟩) nb bc) rfl rfl (by kernel_rfl) (by kernel_rfl) (by kernel_rfl) (by kernel_rfl) (by decide) (fun _ _ _ h => h) (by rfl) (fun W hW => ?_) hS ?_
      · obtain ⟨c0, c1, d0, d1⟩ := HX.out W hW
        clear hW
        go_simp
      simp only [Act.put, List.setIfInBounds_toArray, List.set_cons_zero, List.set_cons_succ]
      refine take_till (i := 22) (some 86) (.int .i64 (jj : Int)) rfl rfl (by kernel_rfl) (by kernel_rfl) (by kernel_rfl) (by kernel_rfl) (by decide) (fun _ _ _ h => h) (by rfl) (fun W hW => ?_) hS ?_
      · obtain ⟨c0, c1, d0, d1⟩ := HX.out W hW
        clear hW
        go_simp
      simp only [Act.put, List.setIfInBounds_toArray, List.set_cons_zero, List.set_cons_succ]
      refine take_till (i := 23) (some 87) (.slice (some ⟨g2, o2, none⟩) nb bc) rfl rfl (by kernel_rfl) (by kernel_rfl) (by kernel_rfl) (by kernel_rfl) (by decide) (fun _ _ _ h => h) (by rfl) (fun W hW => ?_) hS ?_
      · obtain ⟨c0, c1, d0, d1⟩ := HX.out W hW
        clear hW
        go_simp
      simp only [Act.put, List.setIfInBounds_toArray, List.set_cons_zero, List.set_cons_succ]
      refine take_till (i := 24) (some 88) (.int .i64 (nb : Int)) rfl rfl (by kernel_rfl) (by kernel_rfl) (by kernel_rfl) (by kernel_rfl) (by decide) (fun _ _ _ h => h) (by rfl) (fun W hW => ?_) hS ?_
      · obtain ⟨c0, c1, d0, d1⟩ := HX.out W hW
        clear hW
        go_simp
      simp only [Act.put, List.setIfInBounds_toArray, List.set_cons_zero, List.set_cons_succ]
      refine take_till (i := 25) (some 89) (.int .i64 (m2 : Int)) rfl rfl (by kernel_rfl) (by kernel_rfl) (by kernel_rfl) (by kernel_rfl) (by decide) (fun _ _ _ h => h) (by rfl) (fun W hW => ?_) hS ?_
      · obtain ⟨c0, c1, d0, d1⟩ := HX.out W hW
        clear hW
        go_simp
      simp only [Act.put, List.setIfInBounds_toArray, List.set_cons_zero, List.set_cons_succ]
      refine take_till (i := 26) (some 90) (.pointer (some ⟨g2, o2 + m2, none⟩)) rfl rfl (by kernel_rfl) (by kernel_rfl) (by kernel_rfl) (by kernel_rfl) (by decide) (fun _ _ _ h => h) (by rfl) (fun W hW => ?_) hS ?_
      · obtain ⟨c0, c1, d0, d1⟩ := HX.out W hW
        clear hW
        go_simp
      simp only [Act.put, List.setIfInBounds_toArray, List.set_cons_zero, List.set_cons_succ]
      refine take_till (i := 27) (some 91) (.int .u8 (z2 : Int)) rfl rfl (by kernel_rfl) (by kernel_rfl) (by kernel_rfl) (by kernel_rfl) (by decide) (fun _ _ _ h => h) (by rfl) (fun W hW => ?_) hS ?_
      · obtain ⟨c0, c1, d0, d1⟩ := HX.out W hW
        clear hW
        go_simp
      simp only [Act.put, List.setIfInBounds_toArray, List.set_cons_zero, List.set_cons_succ]
      refine take_till (i := 28) (some 92) (.int .i64 (z2 : Int)) rfl rfl (by kernel_rfl) (by kernel_rfl) (by kernel_rfl) (by kernel_rfl) (by decide) (fun _ _ _ h => h) (by rfl) (fun W hW => ?_) hS ?_
      · obtain ⟨c0, c1, d0, d1⟩ := HX.out W hW
        clear hW
        go_simp
        (rw [IntKind.wrap_i64]; omega)
      simp only [Act.put, List.setIfInBounds_toArray, List.set_cons_zero, List.set_cons_succ]
      have P := q_push H3.out ((RH.fr _ _).sep Emp.fr) u2 (z2 : Int) (by have := HP.out; simp; omega)
      refine next_till 29 (by kernel_rfl) rfl (fun K hK => ?_)
      go_simp
      refine P.mono ?_
      rintro e w3 ⟨rfl, h4⟩
      go_simp
      refine hK.out _ _ (fun _ => h4.under) ?_
      clear hK K hS P
      have hS := h4.under
      have H4 := Lib.hid (h4.permH HP.out.2.2.1).rot
      clear h4
      refine take_till (i := 30) (some 94) (.bool false) rfl rfl (by kernel_rfl) (by kernel_rfl) (by kernel_rfl) (by kernel_rfl) (by decide) (fun _ _ _ h => h) (by rfl) (fun W hW => ?_) hS ?_
      · obtain ⟨c0, c1, d0, d1⟩ := HX.out W hW
        clear hW
        go_simp
      simp only [Act.put, List.setIfInBounds_toArray, List.set_cons_zero, List.set_cons_succ]
      refine take_till (i := 31) (some 95) (.bool false) rfl rfl (by kernel_rfl) (by kernel_rfl) (by kernel_rfl) (by kernel_rfl) (by decide) (fun _ _ _ h => h) (by rfl) (fun W hW => ?_) hS ?_
      · obtain ⟨c0, c1, d0, d1⟩ := HX.out W hW
        clear hW
        go_simp
      simp only [Act.put, List.setIfInBounds_toArray, List.set_cons_zero, List.set_cons_succ]
      refine done_till (by kernel_rfl) ?_ _
      clear hS
      go_wp2
      go_roundw
      case rel => exact ⟨r + 1, by go_num, HP.out.1, H4.out⟩
      case measure =>
        have := HP.out.1
        simp only [intOf]
        omega
    · obtain rfl : r = n := by omega
      have hil : ¬ (r : Int) < (r : Int) := by omega
      obtain ⟨L, hL⟩ : ∃ L, (List.range r).map (thg ks bs) = L := ⟨_, rfl⟩
      have hp := (turnJ_perm r by').map (thg ks bs)
      rw [hL] at hp hS
      have hLl : L.length = r := by rw [← hL]; simp
      have HS2 := Lib.hid (And.intro (hS.rot.permH hp).rot (And.intro hLl hbig))
      clear hk hn hbs hnb hbig hr hlt hS hp hL hLl HS
      go_wp2
      go_loopw [13] (fun j wx => ∃ q : Nat, j = .int .i64 (q : Int) ∧ q ≤ 2 ∧ ∃ l1 l2 : List Th, l1.Perm L ∧ l2.Perm L ∧ SL w wx (S2 a b l1 l2)) (fun j _ => 2 - (intOf j).toNat)
      case atStart => exact ⟨0, rfl, by omega, L, L, List.Perm.refl _, List.Perm.refl _, HS2.out.1⟩
      case round =>
        obtain ⟨q, rfl, hq, l1, l2, hp1, hp2, hS⟩ := hrel
        by_cases hq2 : q < 2
        · have hqi : (q : Int) < 2 := by omega
          have hq0 : (0 : Int) ≤ (q : Int) := by omega
          have hS4 := (((((hS.permH (hp1)).rot.permH hp2).rot).newRow kdIn_bare tInt (S2.fr _ _ _ _)).newRow kdIn_bare tI64 ((frI _ _ _).sep (S2.fr _ _ _ _)))
          have hS4 : SL w wr (S4 a b L L (.slice none 0 0) (.slice none 0 0) []) := hS4.third.mono2 fun F h0 => by
            obtain ⟨F1, F2, g1, g2, g3, g4⟩ := h0
            exact Sep.rot3 ⟨F1, F2, g1, g2, g3, g4⟩
          have H4 := Lib.hid (And.intro hS4 hq2)
          clear hq hp1 hp2 hS hS4 hq2
          go_wp2
          go_loopw [14, 15, 16] (fun v1 v2 j wx => ∃ (r2 : Nat) (l lo : List Th), j = .int .i64 (r2 : Int) ∧ r2 ≤ r ∧ lo.length = r2 ∧ (lo ++ l).Perm L ∧ Rising lo ∧ (∀ x ∈ lo, ∀ y ∈ l, Le x y) ∧ SL w wx (S4 a b l l v1 v2 lo)) (fun _ _ j _ => r - (intOf j).toNat)
          case atStart => exact ⟨0, L, [], rfl, Nat.zero_le _, rfl, List.Perm.refl _, fun i x y h => by simp at h, fun x hx => by simp at hx, H4.out.1⟩
          case round =>
            obtain ⟨r2, l, lo, rfl, hr2, hlo, hp, hri, hle, hS⟩ := hrel
            have hlen2 : lo.length + l.length = r := by
              have := hp.length_eq
              rw [List.length_append] at this
              have := HS2.out.2.1
              omega
            by_cases hlt : r2 < r
            · have hne : l ≠ [] := fun e => by
                subst e
                simp at hlen2
                omega
              obtain ⟨x, hx⟩ := fst_ex l hne
              have hx' := hx
              obtain ⟨x1, x2⟩ := x
              have frT : Fr (Sep (RH b l) (Sep (RO kdIn tI64 u14 (lo.map (·.1))) (Sep (RO kdIn tInt u15 (lo.map (·.2))) Emp))) := (RH.fr _ _).sep ((frI _ _ _).sep ((frI _ _ _).sep Emp.fr))
              have hll : l.length ≤ 4294967290 := by have := HS2.out.2.2; omega
              have hil : (r2 : Int) < (r : Int) := by omega
              have hr20 : (0 : Int) ≤ (r2 : Int) := by omega
              obtain ⟨n1, hn1⟩ : ∃ n1 : Int, (r : Int) - 1 = n1 := ⟨_, rfl⟩
              have hn10 : 0 ≤ n1 := by omega
              have hn1b : n1 ≤ 80 := by omega
              obtain ⟨er, her⟩ : ∃ er, (l.erase (x1, x2)).length = er := ⟨_, rfl⟩
              have herr : n1 - (r2 : Int) = (er : Int) := by
                have h1 := List.length_erase_of_mem hx.1
                have h2 := List.length_pos_iff.2 hne
                omega
              have her0 : (0 : Int) ≤ (er : Int) := by omega
              have herb : (er : Int) ≤ 80 := by omega
              have HQ := Lib.hid (And.intro hlt (And.intro hlo (And.intro hp (And.intro hri (And.intro hle (And.intro hx (And.intro hlen2 (And.intro hll her))))))))
              clear hr2 hlo hp hri hle hlen2 hx hne hlt hx' hll her
              go_wp2_with fail
              refine (q_peek hS frT HQ.out.2.2.2.2.2.1).mono ?_
              rintro e w3 ⟨rfl, h3⟩
              clear hS
              go_wp2_with fail
              refine (q_pop h3 frT HQ.out.2.2.2.2.2.1 HQ.out.2.2.2.2.2.2.2.1).mono ?_
              rintro e w4 ⟨rfl, h4⟩
              clear h3 frT
              have frT2 : Fr (Sep (RH a (l.erase (x1, x2))) (Sep (RO kdIn tI64 u14 (lo.map (·.1))) (Sep (RO kdIn tInt u15 (lo.map (·.2))) Emp))) := (RH.fr _ _).sep ((frI _ _ _).sep ((frI _ _ _).sep Emp.fr))
              go_wp2_with fail
              refine (q_pop h4.rot frT2 HQ.out.2.2.2.2.2.1 HQ.out.2.2.2.2.2.2.2.1).mono ?_
              rintro e w5 ⟨rfl, h5⟩
              clear h4 frT2
              have frT3 : Fr (Sep (RH b (l.erase (x1, x2))) (Sep (RO kdIn tI64 u14 (lo.map (·.1))) (Sep (RO kdIn tInt u15 (lo.map (·.2))) Emp))) := (RH.fr _ _).sep ((frI _ _ _).sep ((frI _ _ _).sep Emp.fr))
              have P := q_len h5.rot frT3
              rw [HQ.out.2.2.2.2.2.2.2.2] at P
              clear h5 frT3
              go_wp2_with fail
              refine P.mono ?_
              rintro e w6 ⟨rfl, h6⟩
              clear P
              have h7 := h6.third
              obtain ⟨F1, hR1, -⟩ := h7.one
              obtain ⟨F2, hR2, -⟩ := h6.fourth.one
              have R1 := hR1.rd
              have R2 := hR2.rd
              have hlen : (lo.map (·.1)).length + [x1].length ≤ 4294967296 := by
                have := HQ.out.2.2.2.2.2.2.1
                have := HS2.out.2.2
                have := HS2.out.2.1
                simp
                omega
              have hlen2 : (lo.map (·.2)).length + [x2].length ≤ 4294967296 := by
                have := HQ.out.2.2.2.2.2.2.1
                have := HS2.out.2.2
                have := HS2.out.2.1
                simp
                omega
              obtain ⟨F, hRO, hcl⟩ := h7.open ((RH.fr _ _).sep ((RH.fr _ _).sep ((frI _ _ _).sep Emp.fr)))
              obtain ⟨hro, hrd⟩ := hRO.lit kdIn_bare x1 (cs := #[.int .i64 x1]) rfl
              have HH := Lib.hid (And.intro hRO hcl)
              clear hRO hcl h6 h7 hR1 hR2
              by_cases hz : r2 = 0
              · subst hz
                clear R1 R2
                go_wp2_with (first | (at_builtin; refine wpList_append_ro i64_ty rfl _ _ rfl rfl rfl hro hrd hlen ?_; intro v' w7 ro6 st6 gr6 lo6; obtain ⟨F', m1, m2, m3⟩ := HH.out.1.more x1 ro6 st6; have h8 := (HH.out.2 _ _ _ m1 m2 m3).fourth; clear ro6 st6 gr6 lo6 hro hrd m1 m2 m3 HH; obtain ⟨F3, hRO2, hcl2⟩ := h8.open ((frI _ _ _).sep ((RH.fr _ _).sep ((RH.fr _ _).sep Emp.fr))); obtain ⟨hro2, hrd2⟩ := hRO2.lit kdIn_bare x2 (cs := #[.int .i64 x2]) rfl; have HH2 := Lib.hid (And.intro hRO2 hcl2); clear hRO2 hcl2 h8) | (at_builtin; refine wpList_append_ro int_ty rfl _ _ rfl rfl rfl hro2 hrd2 hlen2 ?_; intro v2' w8 ro6 st6 gr6 lo6; obtain ⟨F', m1, m2, m3⟩ := HH2.out.1.more x2 ro6 st6; have h9 := Lib.hid (HH2.out.2 _ _ _ m1 m2 m3).conv; clear ro6 st6 gr6 lo6 hro2 hrd2 m1 m2 m3 HH2))
                go_roundw
                case rel =>
                  obtain ⟨hlt, hlo, hp, hri, hle, hx, hlen2, hll, her⟩ := HQ.out
                  refine ⟨1, l.erase (x1, x2), lo ++ [(x1, x2)], rfl, hlt, by rw [List.length_append, hlo]; rfl, ?_, hri.more (fun y hy => hle y hy _ hx.1), fun y hy z hz => ?_, by
                    have h := h9.out
                    simp only [S4, List.map_append, List.map_singleton]
                    exact h⟩
                  · rw [List.append_assoc]
                    refine List.Perm.trans ?_ hp
                    exact ((List.perm_cons_erase hx.1).symm).append_left lo
                  · have hz2 := List.mem_of_mem_erase hz
                    rcases List.mem_append.1 hy with h | h
                    · exact hle y h z hz2
                    · rw [List.mem_singleton.1 h]
                      exact hx.2 z hz2
                case measure =>
                  have := HQ.out.1
                  simp only [intOf]
                  omega
              · obtain ⟨m, hm⟩ : ∃ m, r2 = m + 1 := ⟨r2 - 1, by omega⟩
                obtain ⟨y, hy⟩ : ∃ y, lo[m]? = some y := ⟨_, List.getElem?_eq_getElem (by have := HQ.out.2.1; omega)⟩
                obtain ⟨y1, y2⟩ := y
                obtain ⟨g, o, cap, e0, k0⟩ := R1.inn (i := m) (x := y1) (by rw [List.getElem?_map, hy]; rfl)
                obtain ⟨g2, o2, cap2, e2, k1⟩ := R2.inn (i := m) (x := y2) (by rw [List.getElem?_map, hy]; rfl)
                rw [List.length_map, HQ.out.2.1] at e0 e2
                subst e0
                subst e2
                have hle := HQ.out.2.2.2.2.1 _ (List.mem_of_getElem? hy) _ HQ.out.2.2.2.2.2.1.1
                unfold Le Ah at hle
                simp only at hle
                have hmi : (r2 : Int) - 1 = (m : Int) := by omega
                have hm0 : (0 : Int) ≤ (m : Int) := by omega
                have hm1 : (m : Int) < (r2 : Int) := by omega
                have hr2p : (0 : Int) < (r2 : Int) := by omega
                have hg1 : ¬ x1 < y1 := by omega
                clear R1 R2 hy hz hm
                by_cases hxy : x1 = y1
                · subst hxy
                  have hg2 : ¬ x2 < y2 := by omega
                  clear hle
                  go_wp2_with (first | (at_builtin; refine wpList_append_ro i64_ty rfl _ _ rfl rfl rfl hro hrd hlen ?_; intro v' w7 ro6 st6 gr6 lo6; obtain ⟨F', m1, m2, m3⟩ := HH.out.1.more x1 ro6 st6; have h8 := (HH.out.2 _ _ _ m1 m2 m3).fourth; clear ro6 st6 gr6 lo6 hro hrd m1 m2 m3 HH; obtain ⟨F3, hRO2, hcl2⟩ := h8.open ((frI _ _ _).sep ((RH.fr _ _).sep ((RH.fr _ _).sep Emp.fr))); obtain ⟨hro2, hrd2⟩ := hRO2.lit kdIn_bare x2 (cs := #[.int .i64 x2]) rfl; have HH2 := Lib.hid (And.intro hRO2 hcl2); clear hRO2 hcl2 h8) | (at_builtin; refine wpList_append_ro int_ty rfl _ _ rfl rfl rfl hro2 hrd2 hlen2 ?_; intro v2' w8 ro6 st6 gr6 lo6; obtain ⟨F', m1, m2, m3⟩ := HH2.out.1.more x2 ro6 st6; have h9 := Lib.hid (HH2.out.2 _ _ _ m1 m2 m3).conv; clear ro6 st6 gr6 lo6 hro2 hrd2 m1 m2 m3 HH2))
                  go_roundw
                  case rel =>
                    obtain ⟨hlt, hlo, hp, hri, hle, hx, hlen2, hll, her⟩ := HQ.out
                    refine ⟨r2 + 1, l.erase (x1, x2), lo ++ [(x1, x2)], by go_num, hlt, by rw [List.length_append, hlo]; rfl, ?_, hri.more (fun y hy => hle y hy _ hx.1), fun y hy z hz => ?_, by
                    have h := h9.out
                    simp only [S4, List.map_append, List.map_singleton]
                    exact h⟩
                    · rw [List.append_assoc]
                      refine List.Perm.trans ?_ hp
                      exact ((List.perm_cons_erase hx.1).symm).append_left lo
                    · have hz2 := List.mem_of_mem_erase hz
                      rcases List.mem_append.1 hy with h | h
                      · exact hle y h z hz2
                      · rw [List.mem_singleton.1 h]
                        exact hx.2 z hz2
                  case measure =>
                    have := HQ.out.1
                    simp only [intOf]
                    omega
                · clear hle
                  go_wp2_with (first | (at_builtin; refine wpList_append_ro i64_ty rfl _ _ rfl rfl rfl hro hrd hlen ?_; intro v' w7 ro6 st6 gr6 lo6; obtain ⟨F', m1, m2, m3⟩ := HH.out.1.more x1 ro6 st6; have h8 := (HH.out.2 _ _ _ m1 m2 m3).fourth; clear ro6 st6 gr6 lo6 hro hrd m1 m2 m3 HH; obtain ⟨F3, hRO2, hcl2⟩ := h8.open ((frI _ _ _).sep ((RH.fr _ _).sep ((RH.fr _ _).sep Emp.fr))); obtain ⟨hro2, hrd2⟩ := hRO2.lit kdIn_bare x2 (cs := #[.int .i64 x2]) rfl; have HH2 := Lib.hid (And.intro hRO2 hcl2); clear hRO2 hcl2 h8) | (at_builtin; refine wpList_append_ro int_ty rfl _ _ rfl rfl rfl hro2 hrd2 hlen2 ?_; intro v2' w8 ro6 st6 gr6 lo6; obtain ⟨F', m1, m2, m3⟩ := HH2.out.1.more x2 ro6 st6; have h9 := Lib.hid (HH2.out.2 _ _ _ m1 m2 m3).conv; clear ro6 st6 gr6 lo6 hro2 hrd2 m1 m2 m3 HH2))
                  go_roundw
                  case rel =>
                    obtain ⟨hlt, hlo, hp, hri, hle, hx, hlen2, hll, her⟩ := HQ.out
                    refine ⟨r2 + 1, l.erase (x1, x2), lo ++ [(x1, x2)], by go_num, hlt, by rw [List.length_append, hlo]; rfl, ?_, hri.more (fun y hy => hle y hy _ hx.1), fun y hy z hz => ?_, by
                    have h := h9.out
                    simp only [S4, List.map_append, List.map_singleton]
                    exact h⟩
                    · rw [List.append_assoc]
                      refine List.Perm.trans ?_ hp
                      exact ((List.perm_cons_erase hx.1).symm).append_left lo
                    · have hz2 := List.mem_of_mem_erase hz
                      rcases List.mem_append.1 hy with h | h
                      · exact hle y h z hz2
                      · rw [List.mem_singleton.1 h]
                        exact hx.2 z hz2
                  case measure =>
                    have := HQ.out.1
                    simp only [intOf]
                    omega
            · obtain rfl : r2 = r := by omega
              obtain rfl : l = [] := List.eq_nil_of_length_eq_zero (by omega)
              have hil : ¬ (r2 : Int) < (r2 : Int) := by omega
              rw [List.append_nil] at hp
              obtain ⟨n1, hn1⟩ : ∃ n1 : Int, (r2 : Int) - 1 = n1 := ⟨_, rfl⟩
              have hn10 : -1 ≤ n1 := by omega
              have hn1b : n1 ≤ 80 := by omega
              have HQ := Lib.hid (And.intro hlo (And.intro hp hn1))
              have P := q_pop0 hS ((RH.fr _ _).sep ((frI _ _ _).sep ((frI _ _ _).sep Emp.fr)))
              clear hr2 hp hri hle hlen2 hlt hS hlo
              go_wp2_with fail
              refine P.mono ?_
              rintro e w3 ⟨rfl, h3⟩
              have H3 := Lib.hid h3
              clear P h3
              go_wp2
              go_loopw [29] (fun j wx => ∃ (q2 : Nat) (jz : Int), j = .int .i64 jz ∧ jz = n1 - (q2 : Int) ∧ q2 ≤ r2 ∧ ∃ la lb : List Th, la.Perm (lo.drop (r2 - q2)) ∧ lb.Perm (lo.take q2) ∧ SL w wx (S4 a b la lb u14 u15 lo)) (fun j _ => (intOf j + 1).toNat)
              case atStart => exact ⟨0, n1, rfl, by omega, Nat.zero_le _, [], [], by rw [Nat.sub_zero, List.drop_of_length_le (by rw [HQ.out.1]; exact Nat.le_refl _)], by simp, H3.out⟩
              case round =>
                obtain ⟨q2, jz, rfl, hjz, hq2, la, lb, hpa, hpb, hS⟩ := hrel
                by_cases hjp : 0 ≤ jz
                · obtain ⟨ii, hii⟩ : ∃ ii : Nat, jz = (ii : Int) := ⟨jz.toNat, by omega⟩
                  subst hii
                  have hn1e := HQ.out.2.2
                  have hql : q2 < r2 := by omega
                  have hil2 : ii < r2 := by omega
                  obtain ⟨x, hx⟩ : ∃ x, lo[ii]? = some x := ⟨_, List.getElem?_eq_getElem (by rw [HQ.out.1]; exact hil2)⟩
                  obtain ⟨y, hy⟩ : ∃ y, lo[q2]? = some y := ⟨_, List.getElem?_eq_getElem (by rw [HQ.out.1]; exact hql)⟩
                  have hpa2 : (x :: la).Perm (lo.drop (r2 - (q2 + 1))) := by
                    have e1 : r2 - (q2 + 1) = ii := by omega
                    have e2 : r2 - q2 = ii + 1 := by omega
                    rw [e1]
                    rw [e2] at hpa
                    obtain ⟨hlt, e⟩ := List.getElem?_eq_some_iff.1 hx
                    rw [List.drop_eq_getElem_cons hlt, e]
                    exact hpa.cons _
                  have hpb2 : (y :: lb).Perm (lo.take (q2 + 1)) := by
                    rw [List.take_add_one, hy]
                    exact ((hpb.cons y).trans (List.perm_append_comm (l₁ := [y]) (l₂ := lo.take q2)))
                  obtain ⟨F1, hR1, -⟩ := hS.third.one
                  obtain ⟨F2, hR2, -⟩ := hS.fourth.one
                  obtain ⟨x1, x2⟩ := x
                  obtain ⟨y1, y2⟩ := y
                  obtain ⟨g, o, cap, e0, k0⟩ := hR1.rd.inn (i := ii) (x := x1) (by rw [List.getElem?_map, hx]; rfl)
                  obtain ⟨g2, o2, cap2, e2, k1⟩ := hR2.rd.inn (i := ii) (x := x2) (by rw [List.getElem?_map, hx]; rfl)
                  rw [List.length_map, HQ.out.1] at e0 e2
                  subst e0
                  subst e2
                  obtain ⟨g3, o3, cap3, e0, l0⟩ := hR1.rd.inn (i := q2) (x := y1) (by rw [List.getElem?_map, hy]; rfl)
                  obtain ⟨g4, o4, cap4, e2, l1⟩ := hR2.rd.inn (i := q2) (x := y2) (by rw [List.getElem?_map, hy]; rfl)
                  simp only [Value.slice.injEq, Option.some.injEq, Addr.mk.injEq, and_true] at e0 e2
                  obtain ⟨⟨rfl, rfl⟩, -, -⟩ := e0
                  obtain ⟨⟨rfl, rfl⟩, -, -⟩ := e2
                  have hi0 : (0 : Int) ≤ (ii : Int) := by omega
                  have hii2 : (ii : Int) < (r2 : Int) := by omega
                  have hq0' : (0 : Int) ≤ (q2 : Int) := by omega
                  have hqi2 : (q2 : Int) < (r2 : Int) := by omega
                  have hdif : n1 - (ii : Int) = (q2 : Int) := by omega
                  have hn1r : (r2 : Int) - 1 = n1 := hn1e
                  have HQ4 := Lib.hid (And.intro hpa2 (And.intro hpb2 (And.intro hql (And.intro hx (And.intro hy hjz)))))
                  have hla : la.length ≤ 4294967290 ∧ lb.length ≤ 4294967290 := by
                    have h1 := hpa.length_eq
                    have h2 := hpb.length_eq
                    have h3 := HQ.out.1
                    have h4 := HS2.out.2.1
                    have h5 := HS2.out.2.2
                    rw [List.length_drop] at h1
                    rw [List.length_take] at h2
                    omega
                  have hcell : ∀ {W : World}, SL w W (S4 a b ((x1, x2) :: la) lb (.slice (some ⟨g, o, none⟩) r2 cap) (.slice (some ⟨g2, o2, none⟩) r2 cap2) lo) → W.cell? ⟨g, o + q2, none⟩ = some (.int .i64 y1) ∧ W.cell? ⟨g2, o2 + q2, none⟩ = some (.int .i64 y2) := by
                    intro W h
                    obtain ⟨F1, hR1, -⟩ := h.third.one
                    obtain ⟨F2, hR2, -⟩ := h.fourth.one
                    obtain ⟨g3, o3, cap3, e0, l0⟩ := hR1.rd.inn (i := q2) (x := y1) (by rw [List.getElem?_map, hy]; rfl)
                    obtain ⟨g4, o4, cap4, e2, l1⟩ := hR2.rd.inn (i := q2) (x := y2) (by rw [List.getElem?_map, hy]; rfl)
                    simp only [Value.slice.injEq, Option.some.injEq, Addr.mk.injEq, and_true] at e0 e2
                    obtain ⟨⟨rfl, rfl⟩, -, -⟩ := e0
                    obtain ⟨⟨rfl, rfl⟩, -, -⟩ := e2
                    exact ⟨l0, l1⟩
                  have hcell1 : ∀ {W : World}, SL w W (S4 a b ((x1, x2) :: la) lb (.slice (some ⟨g, o, none⟩) r2 cap) (.slice (some ⟨g2, o2, none⟩) r2 cap2) lo) → W.cell? ⟨g, o + ii, none⟩ = some (.int .i64 x1) ∧ W.cell? ⟨g2, o2 + ii, none⟩ = some (.int .i64 x2) := by
                    intro W h
                    obtain ⟨F1, hR1, -⟩ := h.third.one
                    obtain ⟨F2, hR2, -⟩ := h.fourth.one
                    obtain ⟨g3, o3, cap3, e0, l0⟩ := hR1.rd.inn (i := ii) (x := x1) (by rw [List.getElem?_map, hx]; rfl)
                    obtain ⟨g4, o4, cap4, e2, l1⟩ := hR2.rd.inn (i := ii) (x := x2) (by rw [List.getElem?_map, hx]; rfl)
                    simp only [Value.slice.injEq, Option.some.injEq, Addr.mk.injEq, and_true] at e0 e2
                    obtain ⟨⟨rfl, rfl⟩, -, -⟩ := e0
                    obtain ⟨⟨rfl, rfl⟩, -, -⟩ := e2
                    exact ⟨l0, l1⟩
                  have HC := Lib.hid (And.intro @hcell @hcell1)
                  have HS5 := Lib.hid (And.intro hS hla)
                  clear hq2 hpa hpb hS hx hy hpa2 hpb2 hR1 hR2 hcell hcell1 l0 l1 hla hql hil2 hn1e hjz
                  go_wp2_with fail
                  refine region_till 99 (fun W => W.cell? ⟨g, o + ii, none⟩ = some (.int .i64 x1) ∧ W.cell? ⟨g2, o2 + ii, none⟩ = some (.int .i64 x2)) (by kernel_rfl) ⟨k0, k1⟩ (fun hS => ?_)
                  clear k0 k1
                  refine take_till (i := 0) (some 213) (.pointer (some ⟨a, 0, none⟩)) rfl rfl (by kernel_rfl) (by kernel_rfl) (by kernel_rfl) (by kernel_rfl) (by decide) (fun _ _ _ h => h) (by rfl) (fun W hW => ?_) hS ?_
                  · obtain ⟨k0, k1⟩ := id hW
                    clear hW
                    go_simp
                  simp only [Act.put, List.setIfInBounds_toArray, List.set_cons_zero, List.set_cons_succ]
                  refine take_till (i := 1) (some 214) (.slice (some ⟨g, o, none⟩) r2 cap) rfl rfl (by kernel_rfl) (by kernel_rfl) (by kernel_rfl) (by kernel_rfl) (by decide) (fun _ _ _ h => h) (by rfl) (fun W hW => ?_) hS ?_
                  · obtain ⟨k0, k1⟩ := id hW
                    clear hW
                    go_simp
                  simp only [Act.put, List.setIfInBounds_toArray, List.set_cons_zero, List.set_cons_succ]
                  refine take_till (i := 2) (some 215) (.int .i64 (ii : Int)) rfl rfl (by kernel_rfl) (by kernel_rfl) (by kernel_rfl) (by kernel_rfl) (by decide) (fun _ _ _ h => h) (by rfl) (fun W hW => ?_) hS ?_
                  · obtain ⟨k0, k1⟩ := id hW
                    clear hW
                    go_simp
                  simp only [Act.put, List.setIfInBounds_toArray, List.set_cons_zero, List.set_cons_succ]
                  refine take_till (i := 3) (some 216) (.pointer (some ⟨g, o + ii, none⟩)) rfl rfl (by kernel_rfl) (by kernel_rfl) (by kernel_rfl) (by kernel_rfl) (by decide) (fun _ _ _ h => h) (by rfl) (fun W hW => ?_) hS ?_
                  · obtain ⟨k0, k1⟩ := id hW
                    clear hW
                    go_simp
                  simp only [Act.put, List.setIfInBounds_toArray, List.set_cons_zero, List.set_cons_succ]
                  refine take_till (i := 4) (some 217) (.int .i64 x1) rfl rfl (by kernel_rfl) (by kernel_rfl) (by kernel_rfl) (by kernel_rfl) (by decide) (fun _ _ _ h => h) (by rfl) (fun W hW => ?_) hS ?_
                  · obtain ⟨k0, k1⟩ := id hW
                    clear hW
                    go_simp
                  simp only [Act.put, List.setIfInBounds_toArray, List.set_cons_zero, List.set_cons_succ]
                  refine take_till (i := 5) (some 218) (.slice (some ⟨g2, o2, none⟩) r2 cap2) rfl rfl (by kernel_rfl) (by kernel_rfl) (by kernel_rfl) (by kernel_rfl) (by decide) (fun _ _ _ h => h) (by rfl) (fun W hW => ?_) hS ?_
                  · obtain ⟨k0, k1⟩ := id hW
                    clear hW
                    go_simp
                  simp only [Act.put, List.setIfInBounds_toArray, List.set_cons_zero, List.set_cons_succ]
                  refine take_till (i := 6) (some 219) (.int .i64 (ii : Int)) rfl rfl (by kernel_rfl) (by kernel_rfl) (by kernel_rfl) (by kernel_rfl) (by decide) (fun _ _ _ h => h) (by rfl) (fun W hW => ?_) hS ?_
                  · obtain ⟨k0, k1⟩ := id hW
                    clear hW
                    go_simp
                  simp only [Act.put, List.setIfInBounds_toArray, List.set_cons_zero, List.set_cons_succ]
                  refine take_till (i := 7) (some 220) (.pointer (some ⟨g2, o2 + ii, none⟩)) rfl rfl (by kernel_rfl) (by kernel_rfl) (by kernel_rfl) (by kernel_rfl) (by decide) (fun _ _ _ h => h) (by rfl) (fun W hW => ?_) hS ?_
                  · obtain ⟨k0, k1⟩ := id hW
                    clear hW
                    go_simp
                  simp only [Act.put, List.setIfInBounds_toArray, List.set_cons_zero, List.set_cons_succ]
                  refine take_till (i := 8) (some 221) (.int .i64 x2) rfl rfl (by kernel_rfl) (by kernel_rfl) (by kernel_rfl) (by kernel_rfl) (by decide) (fun _ _ _ h => h) (by rfl) (fun W hW => ?_) hS ?_
                  · obtain ⟨k0, k1⟩ := id hW
                    clear hW
                    go_simp
                  simp only [Act.put, List.setIfInBounds_toArray, List.set_cons_zero, List.set_cons_succ]
                  have frA : Fr (Sep (RH b lb) (Sep (RO kdIn tI64 (.slice (some ⟨g, o, none⟩) r2 cap) (lo.map (·.1))) (Sep (RO kdIn tInt (.slice (some ⟨g2, o2, none⟩) r2 cap2) (lo.map (·.2))) Emp))) := (RH.fr _ _).sep ((frI _ _ _).sep ((frI _ _ _).sep Emp.fr))
                  have hSd := HS5.out.1.later ((RH.fr _ _).sep frA) (below_drewN (Below.refl _ _) 1)
                  have P := q_push hSd frA x1 x2 HS5.out.2.1
                  refine next_till 9 (by kernel_rfl) rfl (fun K hK => ?_)
                  go_simp
                  refine P.mono ?_
                  rintro e w4 ⟨rfl, h4⟩
                  go_simp
                  refine hK.out _ _ (fun _ => HC.out.2 h4) ?_
                  clear hK K hS P hSd frA
                  refine done_till (by kernel_rfl) ?_ _
                  obtain ⟨l0, l1⟩ := HC.out.1 h4
                  have HS6 := Lib.hid h4
                  clear h4
                  go_wp2_with fail
                  refine region_till 99 (fun W => W.cell? ⟨g, o + q2, none⟩ = some (.int .i64 y1) ∧ W.cell? ⟨g2, o2 + q2, none⟩ = some (.int .i64 y2)) (by kernel_rfl) ⟨l0, l1⟩ (fun hS => ?_)
                  clear l0 l1
                  refine take_till (i := 0) (some 223) (.pointer (some ⟨b, 0, none⟩)) rfl rfl (by kernel_rfl) (by kernel_rfl) (by kernel_rfl) (by kernel_rfl) (by decide) (fun _ _ _ h => h) (by rfl) (fun W hW => ?_) hS ?_
                  · obtain ⟨k0, k1⟩ := id hW
                    clear hW
                    go_simp
                  simp only [Act.put, List.setIfInBounds_toArray, List.set_cons_zero, List.set_cons_succ]
                  refine take_till (i := 1) (some 224) (.slice (some ⟨g, o, none⟩) r2 cap) rfl rfl (by kernel_rfl) (by kernel_rfl) (by kernel_rfl) (by kernel_rfl) (by decide) (fun _ _ _ h => h) (by rfl) (fun W hW => ?_) hS ?_
                  · obtain ⟨k0, k1⟩ := id hW
                    clear hW
                    go_simp
                  simp only [Act.put, List.setIfInBounds_toArray, List.set_cons_zero, List.set_cons_succ]
                  refine take_till (i := 2) (some 225) (.int .i64 (r2 : Int)) rfl rfl (by kernel_rfl) (by kernel_rfl) (by kernel_rfl) (by kernel_rfl) (by decide) (fun _ _ _ h => h) (by rfl) (fun W hW => ?_) hS ?_
                  · obtain ⟨k0, k1⟩ := id hW
                    clear hW
                    go_simp
                  simp only [Act.put, List.setIfInBounds_toArray, List.set_cons_zero, List.set_cons_succ]
                  refine take_till (i := 3) (some 226) (.int .i64 n1) rfl rfl (by kernel_rfl) (by kernel_rfl) (by kernel_rfl) (by kernel_rfl) (by decide) (fun _ _ _ h => h) (by rfl) (fun W hW => ?_) hS ?_
                  · obtain ⟨k0, k1⟩ := id hW
                    clear hW
                    go_simp
                    (rw [IntKind.wrap_i64]; omega)
                  simp only [Act.put, List.setIfInBounds_toArray, List.set_cons_zero, List.set_cons_succ]
                  refine take_till (i := 4) (some 227) (.int .i64 (ii : Int)) rfl rfl (by kernel_rfl) (by kernel_rfl) (by kernel_rfl) (by kernel_rfl) (by decide) (fun _ _ _ h => h) (by rfl) (fun W hW => ?_) hS ?_
                  · obtain ⟨k0, k1⟩ := id hW
                    clear hW
                    go_simp
                  simp only [Act.put, List.setIfInBounds_toArray, List.set_cons_zero, List.set_cons_succ]
                  refine take_till (i := 5) (some 228) (.int .i64 (q2 : Int)) rfl rfl (by kernel_rfl) (by kernel_rfl) (by kernel_rfl) (by kernel_rfl) (by decide) (fun _ _ _ h => h) (by rfl) (fun W hW => ?_) hS ?_
                  · obtain ⟨k0, k1⟩ := id hW
                    clear hW
                    go_simp
                    (rw [IntKind.wrap_i64]; omega)
                  simp only [Act.put, List.setIfInBounds_toArray, List.set_cons_zero, List.set_cons_succ]
                  refine take_till (i := 6) (some 229) (.pointer (some ⟨g, o + q2, none⟩)) rfl rfl (by kernel_rfl) (by kernel_rfl) (by kernel_rfl) (by kernel_rfl) (by decide) (fun _ _ _ h => h) (by rfl) (fun W hW => ?_) hS ?_
                  · obtain ⟨k0, k1⟩ := id hW
                    clear hW
                    go_simp
                  simp only [Act.put, List.setIfInBounds_toArray, List.set_cons_zero, List.set_cons_succ]
                  refine take_till (i := 7) (some 230) (.int .i64 y1) rfl rfl (by kernel_rfl) (by kernel_rfl) (by kernel_rfl) (by kernel_rfl) (by decide) (fun _ _ _ h => h) (by rfl) (fun W hW => ?_) hS ?_
                  · obtain ⟨k0, k1⟩ := id hW
                    clear hW
                    go_simp
                  simp only [Act.put, List.setIfInBounds_toArray, List.set_cons_zero, List.set_cons_succ]
                  refine take_till (i := 8) (some 231) (.slice (some ⟨g2, o2, none⟩) r2 cap2) rfl rfl (by kernel_rfl) (by kernel_rfl) (by kernel_rfl) (by kernel_rfl) (by decide) (fun _ _ _ h => h) (by rfl) (fun W hW => ?_) hS ?_
                  · obtain ⟨k0, k1⟩ := id hW
                    clear hW
                    go_simp
                  simp only [Act.put, List.setIfInBounds_toArray, List.set_cons_zero, List.set_cons_succ]
                  refine take_till (i := 9) (some 232) (.int .i64 (r2 : Int)) rfl rfl (by kernel_rfl) (by kernel_rfl) (by kernel_rfl) (by kernel_rfl) (by decide) (fun _ _ _ h => h) (by rfl) (fun W hW => ?_) hS ?_
                  · obtain ⟨k0, k1⟩ := id hW
                    clear hW
                    go_simp
                  simp only [Act.put, List.setIfInBounds_toArray, List.set_cons_zero, List.set_cons_succ]
                  refine take_till (i := 10) (some 233) (.int .i64 n1) rfl rfl (by kernel_rfl) (by kernel_rfl) (by kernel_rfl) (by kernel_rfl) (by decide) (fun _ _ _ h => h) (by rfl) (fun W hW => ?_) hS ?_
                  · obtain ⟨k0, k1⟩ := id hW
                    clear hW
                    go_simp
                    (rw [IntKind.wrap_i64]; omega)
                  simp only [Act.put, List.setIfInBounds_toArray, List.set_cons_zero, List.set_cons_succ]
                  refine take_till (i := 11) (some 234) (.int .i64 (ii : Int)) rfl rfl (by kernel_rfl) (by kernel_rfl) (by kernel_rfl) (by kernel_rfl) (by decide) (fun _ _ _ h => h) (by rfl) (fun W hW => ?_) hS ?_
                  · obtain ⟨k0, k1⟩ := id hW
                    clear hW
                    go_simp
                  simp only [Act.put, List.setIfInBounds_toArray, List.set_cons_zero, List.set_cons_succ]
                  refine take_till (i := 12) (some 235) (.int .i64 (q2 : Int)) rfl rfl (by kernel_rfl) (by kernel_rfl) (by kernel_rfl) (by kernel_rfl) (by decide) (fun _ _ _ h => h) (by rfl) (fun W hW => ?_) hS ?_
                  · obtain ⟨k0, k1⟩ := id hW
                    clear hW
                    go_simp
                    (rw [IntKind.wrap_i64]; omega)
                  simp only [Act.put, List.setIfInBounds_toArray, List.set_cons_zero, List.set_cons_succ]
                  refine take_till (i := 13) (some 236) (.pointer (some ⟨g2, o2 + q2, none⟩)) rfl rfl (by kernel_rfl) (by kernel_rfl) (by kernel_rfl) (by kernel_rfl) (by decide) (fun _ _ _ h => h) (by rfl) (fun W hW => ?_) hS ?_
                  · obtain ⟨k0, k1⟩ := id hW
                    clear hW
                    go_simp
                  simp only [Act.put, List.setIfInBounds_toArray, List.set_cons_zero, List.set_cons_succ]
                  refine take_till (i := 14) (some 237) (.int .i64 y2) rfl rfl (by kernel_rfl) (by kernel_rfl) (by kernel_rfl) (by kernel_rfl) (by decide) (fun _ _ _ h => h) (by rfl) (fun W hW => ?_) hS ?_
                  · obtain ⟨k0, k1⟩ := id hW
                    clear hW
                    go_simp
                  simp only [Act.put, List.setIfInBounds_toArray, List.set_cons_zero, List.set_cons_succ]
                  have frB : Fr (Sep (RH a ((x1, x2) :: la)) (Sep (RO kdIn tI64 (.slice (some ⟨g, o, none⟩) r2 cap) (lo.map (·.1))) (Sep (RO kdIn tInt (.slice (some ⟨g2, o2, none⟩) r2 cap2) (lo.map (·.2))) Emp))) := (RH.fr _ _).sep ((frI _ _ _).sep ((frI _ _ _).sep Emp.fr))
                  have hSd := HS6.out.rot.later ((RH.fr _ _).sep frB) (below_drewN (Below.refl _ _) 1)
                  have P := q_push hSd frB y1 y2 HS5.out.2.2
                  refine next_till 15 (by kernel_rfl) rfl (fun K hK => ?_)
                  go_simp
                  refine P.mono ?_
                  rintro e w5 ⟨rfl, h5⟩
                  go_simp
                  refine hK.out _ _ (fun _ => ?_) ?_
                  · obtain ⟨F1, hR1, -⟩ := h5.third.one
                    obtain ⟨F2, hR2, -⟩ := h5.fourth.one
                    obtain ⟨g3, o3, cap3, e0, l0⟩ := hR1.rd.inn (i := q2) (x := y1) (by rw [List.getElem?_map, HQ4.out.2.2.2.2.1]; rfl)
                    obtain ⟨g4, o4, cap4, e2, l1⟩ := hR2.rd.inn (i := q2) (x := y2) (by rw [List.getElem?_map, HQ4.out.2.2.2.2.1]; rfl)
                    simp only [Value.slice.injEq, Option.some.injEq, Addr.mk.injEq, and_true] at e0 e2
                    obtain ⟨⟨rfl, rfl⟩, -, -⟩ := e0
                    obtain ⟨⟨rfl, rfl⟩, -, -⟩ := e2
                    exact ⟨l0, l1⟩
                  clear hK K hS P hSd frB
                  refine done_till (by kernel_rfl) ?_ _
                  have HS7 := Lib.hid h5.rot
                  clear h5
                  go_wp2
                  go_roundw
                  case rel => exact ⟨q2 + 1, (ii : Int) - 1, by go_num, by have := HQ4.out.2.2.2.2.2; omega, HQ4.out.2.2.1, _, _, HQ4.out.1, HQ4.out.2.1, HS7.out⟩
                  case measure =>
                    simp only [intOf]
                    omega
                · have hn1e := HQ.out.2.2
                  have hqe : q2 = r2 := by omega
                  subst hqe
                  have hlo := HQ.out.1
                  rw [Nat.sub_self, List.drop_zero] at hpa
                  rw [List.take_of_length_le (by omega)] at hpb
                  have HZ := Lib.hid (And.intro (hpa.trans HQ.out.2.1) (And.intro (hpb.trans HQ.out.2.1) hS.third.drop.third.drop))
                  clear hq2 hpa hpb hS hn1e hlo hjz
                  have hjp' : ¬ (0 : Int) ≤ jz := hjp
                  go_wp2
                  go_roundw
                  case rel => exact ⟨q + 1, by go_num, H4.out.2, la, lb, HZ.out.1, HZ.out.2.1, HZ.out.2.2⟩
                  case measure =>
                    have := H4.out.2
                    simp only [intOf]
                    omega
        · obtain rfl : q = 2 := by omega
          have P := q_len hS ((RH.fr _ _).sep Emp.fr)
          have hl1 : l1.length = r := hp1.length_eq.trans HS2.out.2.1
          rw [hl1] at P
          clear hS hp1 hp2 hq hq2 hl1
          go_wp2_with fail
          refine P.mono ?_
          rintro e w3 ⟨rfl, h3⟩
          clear P
          go_wp2_with fail
          refine (works_any w3).mono ?_
          rintro e w7 ⟨rfl, hb7⟩
          go_wp2
          go_ret
          exact ⟨rfl, h3.under.trans (hb7.mono h3.under.size)⟩
end Go.Proofs.Ytfpjipmlhbimoaa
