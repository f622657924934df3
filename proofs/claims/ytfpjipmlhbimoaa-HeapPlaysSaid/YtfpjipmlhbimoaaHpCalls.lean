/- The calls of package heap: what each answers, and which things there are then; condition: fewer than 2^32 things. -/
import Derived.Test.YtfpjipmlhbimoaaHpDown
import Derived.Test.YtfpjipmlhbimoaaHpPush
namespace Go.Proofs.Ytfpjipmlhbimoaa
open Go.RowKit

/-- The first one of some things. -/
def Fst (l : List Th) (x : Th) : Prop := x ∈ l ∧ ∀ y ∈ l, Le x y
theorem Fst.perm {l m : List Th} {x : Th} (h : Fst l x) (hp : l.Perm m) : Fst m x := ⟨hp.subset h.1, fun y hy => h.2 y (hp.symm.subset hy)⟩
theorem Fst.eq {l : List Th} {x y : Th} (h : Fst l x) (k : Fst l y) : x = y := (h.2 y k.1).antisymm (k.2 x h.1)
theorem Fst.ne {l : List Th} {x : Th} (h : Fst l x) : l ≠ [] := fun e => by rw [e] at h; exact absurd h.1 (by simp)
theorem fst_ex : ∀ (l : List Th), l ≠ [] → ∃ x, Fst l x
  | [], h => absurd rfl h
  | [a], _ => ⟨a, by simp, fun y hy => by
      rw [List.mem_singleton.1 hy]
      exact Le.refl _⟩
  | a :: c :: r, _ => by
      obtain ⟨x, h1, h2⟩ := fst_ex (c :: r) (by simp)
      rcases Le.total a x with h | h
      · exact ⟨a, by simp, fun y hy => by
          rcases List.mem_cons.1 hy with rfl | hy
          · exact Le.refl _
          · exact h.trans (h2 y hy)⟩
      · exact ⟨x, List.mem_cons_of_mem _ h1, fun y hy => by
          rcases List.mem_cons.1 hy with rfl | hy
          · exact h
          · exact h2 y hy⟩

/-- A heap at b that has these things. -/
def Hp (w : World) (b : Nat) (l : List Th) (F : Nat → Prop) : Prop := ∃ v r, HM tHeap tThing w b v r F ∧ HeapOk r ∧ r.Perm l
theorem th_ty : RowTy Try.prog kdTh 49 tThing := RowTy.of (z := .agg #[.int .i64 0, .int .i64 0]) (by' := 16) Try.underlying49 (by kernel_rfl) rfl (by decide)

section
variable {w w' : World} {b : Nat} {v : Value} {l m : List Th} {F S : Nat → Prop} {x : Th}
theorem Hp.perm (h : Hp w b l F) (hp : l.Perm m) : Hp w b m F := let ⟨v, r, h1, h2, h3⟩ := h; ⟨v, r, h1, h2, h3.trans hp⟩
theorem Hp.lt (h : Hp w b l F) {q : Nat} (hq : F q) : q < w.heap.size := let ⟨_, _, h1, _⟩ := h; h1.lt hq
theorem Hp.kept (h : Hp w b l F) (hk : ∀ q, F q → w'.heap[q]? = w.heap[q]?) : Hp w' b l F := let ⟨v, r, h1, h2, h3⟩ := h; ⟨v, r, h1.kept hk, h2, h3⟩
theorem Hp.below (h : Hp w b l F) (hb : Below w.heap.size w w') : Hp w' b l F := h.kept fun q hq => hb.block q (h.lt hq)
theorem Hp.only (h : Hp w b l F) (ho : Only S w w') (hd : ∀ q, F q → ¬ S q) : Hp w' b l F := h.kept fun q hq => ho.block q (h.lt hq) (hd q hq)

theorem new_any (w : World) : Calls Try.prog 9 #[] w fun e w' => e = .returned (ptr w.heap.size) ∧ Hp w' w.heap.size [] (fun q => q = w.heap.size) ∧ Below w.heap.size w w' := by
  have hz := Cel.new w #[.slice none 0 0] tHeap
  have hb : Below w.heap.size w (w.alloc (.cells #[.slice none 0 0] tHeap)) := (Below.refl _ _).alloc (Nat.le_refl _) _
  go_enter Try.func9, Try.ntmps9
  go_wp2
  go_ret
  refine ⟨rfl, ⟨_, [], ⟨hz, World.ownsRow_nil _ _ _ _, fun q => ?_, fun q hq => by cases hq⟩, HeapOk.nil, List.Perm.refl _⟩, hb⟩
  simp [Value.ownBlock]

theorem len_any (h : Hp w b l F) : Calls Try.prog 16 #[ptr b] w fun e w' => e = .returned (.int .i64 (l.length : Nat)) ∧ w = w' := by
  obtain ⟨v, r, h1, _, h3⟩ := h
  have c0 := h1.cel.cell 0
  simp only [List.getElem?_cons_zero] at c0
  have hs := Rw.of_own h1.row
  obtain ⟨a, cap, rfl, _⟩ := hs
  rw [← h3.length_eq]
  clear h1 h3
  go_enter Try.func16, Try.ntmps16
  go_wp2
  go_ret
  exact ⟨rfl, rfl⟩
theorem len_nil (w : World) : Calls Try.prog 16 #[.pointer none] w fun e w' => e = .returned (.int .i64 0) ∧ w = w' := by
  go_enter Try.func16, Try.ntmps16
  go_wp2
  go_ret
  exact ⟨rfl, rfl⟩

theorem push_nil (k i : Int) (w : World) : Calls Try.prog 10 #[.pointer none, .int .i64 k, .int .i64 i] w fun e w' => e = .returned (err 2) ∧ w = w' := by
  go_enter Try.func10, Try.ntmps10
  go_wp2
  go_ret
  exact ⟨rfl, rfl⟩
theorem peek_nil (w : World) : Calls Try.prog 14 #[.pointer none] w fun e w' => e = .returned (.tuple #[.int .i64 0, .int .i64 0, err 2]) ∧ w = w' := by
  go_enter Try.func14, Try.ntmps14
  go_wp2
  go_ret3
  exact ⟨rfl, rfl⟩
theorem pop_nil (w : World) : Calls Try.prog 12 #[.pointer none] w fun e w' => e = .returned (.tuple #[.int .i64 0, .int .i64 0, err 2]) ∧ w = w' := by
  have P := peek_nil
  go_enter Try.func12, Try.ntmps12
  go_wp2_with fail
  refine (P w).mono ?_
  rintro e w1 ⟨rfl, rfl⟩
  go_wp2
  go_ret3
  exact ⟨rfl, rfl⟩
theorem peek_none (h : Hp w b [] F) : Calls Try.prog 14 #[ptr b] w fun e w' => e = .returned (.tuple #[.int .i64 0, .int .i64 0, err 4]) ∧ w = w' := by
  obtain ⟨v, r, h1, _, h3⟩ := h
  obtain rfl : r = [] := by simpa using h3
  have c0 := h1.cel.cell 0
  simp only [List.getElem?_cons_zero] at c0
  have hs := Rw.of_own h1.row
  obtain ⟨a, cap, rfl, _⟩ := hs
  simp only [List.length_nil] at c0
  clear h1 h3
  go_enter Try.func14, Try.ntmps14
  go_wp2
  go_ret3
  exact ⟨rfl, rfl⟩
theorem pop_none (h : Hp w b [] F) : Calls Try.prog 12 #[ptr b] w fun e w' => e = .returned (.tuple #[.int .i64 0, .int .i64 0, err 4]) ∧ w = w' := by
  have P := peek_none h
  clear h
  go_enter Try.func12, Try.ntmps12
  go_wp2_with fail
  refine P.mono ?_
  rintro e w1 ⟨rfl, rfl⟩
  go_wp2
  go_ret3
  exact ⟨rfl, rfl⟩

/-- The row's own first one. -/
theorem Hp.top (h : Hp w b l F) (hx : Fst l x) : ∃ g cap r, HM tHeap tThing w b (.slice (some ⟨g, 0, none⟩) r.length cap) r F ∧ HeapOk r ∧ r.Perm l ∧ r[0]? = some x := by
  obtain ⟨v, r, h1, h2, h3⟩ := h
  have hne : r ≠ [] := fun e => by
    subst e
    exact hx.ne (by simpa using h3.symm)
  rcases h1.row.shape with ⟨_, e⟩ | ⟨g, cap, rfl, _⟩
  · exact absurd e hne
  obtain ⟨a, r', rfl⟩ := List.exists_cons_of_ne_nil hne
  refine ⟨g, cap, _, h1, h2, h3, ?_⟩
  have ht : Fst (a :: r') a := ⟨by simp, h2.top_mem rfl⟩
  rw [(hx.perm h3.symm).eq ht]
  rfl

set_option maxRecDepth 100000 in
set_option maxHeartbeats 4000000 in
theorem peek_some (h : Hp w b l F) (hx : Fst l x) : Calls Try.prog 14 #[ptr b] w fun e w' => e = .returned (.tuple #[.int .i64 x.1, .int .i64 x.2, err 0]) ∧ Below w.heap.size w w' := by
  obtain ⟨g, cap, r, h1, _, _, hr⟩ := h.top hx
  have c0 := h1.cel.cell 0
  simp only [List.getElem?_cons_zero] at c0
  obtain ⟨g', cap', e0, k0, k1⟩ := h1.row.at hr
  simp only [Value.slice.injEq, Option.some.injEq, Addr.mk.injEq, and_true, true_and] at e0
  obtain ⟨rfl, rfl⟩ := e0
  have hn0 := (List.getElem?_eq_some_iff.1 hr).1
  obtain ⟨n, hn⟩ : ∃ n, n = r.length := ⟨_, rfl⟩
  rw [← hn] at c0 hn0
  obtain ⟨x1, x2⟩ := x
  simp only [Nat.zero_mul, Nat.zero_add] at k0 k1 ⊢
  have hn1 : (0 : Int) < (n : Int) := by omega
  have hcl := fun {a : Addr} {u : Value} {W : World} (hW : Below w.heap.size w W) (hc : w.cell? a = some u) => (hW.cell (p := a) (World.block_lt_of_cell? w _ hc)).trans hc
  have HX := Lib.hid (fun (W : World) (hW : Below w.heap.size w W) => And.intro (hcl hW c0) (And.intro (hcl hW k0) (hcl hW k1)))
  have HN := Lib.hid hn
  clear h hx h1 hr hcl k0 k1 hn
  go_enter Try.func14, Try.ntmps14
  go_wp2_with fail
  refine region_till 99 (fun W => Below w.heap.size w W) (by kernel_rfl) (below_drewN (Below.refl _ _) 1) (fun hS => ?_)
  refine take_till (i := 0) (some 13) (.pointer (some ⟨b, 0, none⟩)) rfl rfl (by kernel_rfl) (by kernel_rfl) (by kernel_rfl) (by kernel_rfl) (by decide) (fun _ _ _ h => h) (by rfl) (fun W hW => ?_) hS ?_
  · obtain ⟨c0, k0, k1⟩ := HX.out W hW
    clear hW
    go_simp
  simp only [Act.put, List.setIfInBounds_toArray, List.set_cons_zero, List.set_cons_succ]
  refine take_till (i := 1) (some 14) (.pointer (some ⟨b, 0, none⟩)) rfl rfl (by kernel_rfl) (by kernel_rfl) (by kernel_rfl) (by kernel_rfl) (by decide) (fun _ _ _ h => h) (by rfl) (fun W hW => ?_) hS ?_
  · obtain ⟨c0, k0, k1⟩ := HX.out W hW
    clear hW
    go_simp
  simp only [Act.put, List.setIfInBounds_toArray, List.set_cons_zero, List.set_cons_succ]
  refine take_till (i := 2) (some 15) (.pointer (some ⟨b, 0, none⟩)) rfl rfl (by kernel_rfl) (by kernel_rfl) (by kernel_rfl) (by kernel_rfl) (by decide) (fun _ _ _ h => h) (by rfl) (fun W hW => ?_) hS ?_
  · obtain ⟨c0, k0, k1⟩ := HX.out W hW
    clear hW
    go_simp
  simp only [Act.put, List.setIfInBounds_toArray, List.set_cons_zero, List.set_cons_succ]
  refine take_till (i := 3) (some 16) (.slice (some ⟨g, 0, none⟩) n cap) rfl rfl (by kernel_rfl) (by kernel_rfl) (by kernel_rfl) (by kernel_rfl) (by decide) (fun _ _ _ h => h) (by rfl) (fun W hW => ?_) hS ?_
  · obtain ⟨c0, k0, k1⟩ := HX.out W hW
    clear hW
    go_simp
  simp only [Act.put, List.setIfInBounds_toArray, List.set_cons_zero, List.set_cons_succ]
  refine take_till (i := 4) (some 17) (.pointer (some ⟨g, 0, none⟩)) rfl rfl (by kernel_rfl) (by kernel_rfl) (by kernel_rfl) (by kernel_rfl) (by decide) (fun _ _ _ h => h) (by rfl) (fun W hW => ?_) hS ?_
  · obtain ⟨c0, k0, k1⟩ := HX.out W hW
    clear hW
    go_simp
  simp only [Act.put, List.setIfInBounds_toArray, List.set_cons_zero, List.set_cons_succ]
  refine take_till (i := 5) (some 18) (.pointer (some ⟨g, 0, none⟩)) rfl rfl (by kernel_rfl) (by kernel_rfl) (by kernel_rfl) (by kernel_rfl) (by decide) (fun _ _ _ h => h) (by rfl) (fun W hW => ?_) hS ?_
  · obtain ⟨c0, k0, k1⟩ := HX.out W hW
    clear hW
    go_simp
  simp only [Act.put, List.setIfInBounds_toArray, List.set_cons_zero, List.set_cons_succ]
  refine take_till (i := 6) (some 19) (.int .i64 x1) rfl rfl (by kernel_rfl) (by kernel_rfl) (by kernel_rfl) (by kernel_rfl) (by decide) (fun _ _ _ h => h) (by rfl) (fun W hW => ?_) hS ?_
  · obtain ⟨c0, k0, k1⟩ := HX.out W hW
    clear hW
    go_simp
  simp only [Act.put, List.setIfInBounds_toArray, List.set_cons_zero, List.set_cons_succ]
  refine take_till (i := 7) (some 20) (.pointer (some ⟨b, 0, none⟩)) rfl rfl (by kernel_rfl) (by kernel_rfl) (by kernel_rfl) (by kernel_rfl) (by decide) (fun _ _ _ h => h) (by rfl) (fun W hW => ?_) hS ?_
  · obtain ⟨c0, k0, k1⟩ := HX.out W hW
    clear hW
    go_simp
  simp only [Act.put, List.setIfInBounds_toArray, List.set_cons_zero, List.set_cons_succ]
  refine take_till (i := 8) (some 21) (.pointer (some ⟨b, 0, none⟩)) rfl rfl (by kernel_rfl) (by kernel_rfl) (by kernel_rfl) (by kernel_rfl) (by decide) (fun _ _ _ h => h) (by rfl) (fun W hW => ?_) hS ?_
  · obtain ⟨c0, k0, k1⟩ := HX.out W hW
    clear hW
    go_simp
  simp only [Act.put, List.setIfInBounds_toArray, List.set_cons_zero, List.set_cons_succ]
  refine take_till (i := 9) (some 22) (.pointer (some ⟨b, 0, none⟩)) rfl rfl (by kernel_rfl) (by kernel_rfl) (by kernel_rfl) (by kernel_rfl) (by decide) (fun _ _ _ h => h) (by rfl) (fun W hW => ?_) hS ?_
  · obtain ⟨c0, k0, k1⟩ := HX.out W hW
    clear hW
    go_simp
  simp only [Act.put, List.setIfInBounds_toArray, List.set_cons_zero, List.set_cons_succ]
  refine take_till (i := 10) (some 23) (.slice (some ⟨g, 0, none⟩) n cap) rfl rfl (by kernel_rfl) (by kernel_rfl) (by kernel_rfl) (by kernel_rfl) (by decide) (fun _ _ _ h => h) (by rfl) (fun W hW => ?_) hS ?_
  · obtain ⟨c0, k0, k1⟩ := HX.out W hW
    clear hW
    go_simp
  simp only [Act.put, List.setIfInBounds_toArray, List.set_cons_zero, List.set_cons_succ]
  refine take_till (i := 11) (some 24) (.pointer (some ⟨g, 0, none⟩)) rfl rfl (by kernel_rfl) (by kernel_rfl) (by kernel_rfl) (by kernel_rfl) (by decide) (fun _ _ _ h => h) (by rfl) (fun W hW => ?_) hS ?_
  · obtain ⟨c0, k0, k1⟩ := HX.out W hW
    clear hW
    go_simp
  simp only [Act.put, List.setIfInBounds_toArray, List.set_cons_zero, List.set_cons_succ]
  refine take_till (i := 12) (some 25) (.pointer (some ⟨g, 1, none⟩)) rfl rfl (by kernel_rfl) (by kernel_rfl) (by kernel_rfl) (by kernel_rfl) (by decide) (fun _ _ _ h => h) (by rfl) (fun W hW => ?_) hS ?_
  · obtain ⟨c0, k0, k1⟩ := HX.out W hW
    clear hW
    go_simp
  simp only [Act.put, List.setIfInBounds_toArray, List.set_cons_zero, List.set_cons_succ]
  refine take_till (i := 13) (some 26) (.int .i64 x2) rfl rfl (by kernel_rfl) (by kernel_rfl) (by kernel_rfl) (by kernel_rfl) (by decide) (fun _ _ _ h => h) (by rfl) (fun W hW => ?_) hS ?_
  · obtain ⟨c0, k0, k1⟩ := HX.out W hW
    clear hW
    go_simp
  simp only [Act.put, List.setIfInBounds_toArray, List.set_cons_zero, List.set_cons_succ]
  refine take_till (i := 14) (some 2) (.int .i64 x1) rfl rfl (by kernel_rfl) (by kernel_rfl) (by kernel_rfl) (by kernel_rfl) (by decide) (fun _ _ _ h => h) (by rfl) (fun W hW => ?_) hS ?_
  · obtain ⟨c0, k0, k1⟩ := HX.out W hW
    clear hW
    go_simp
  simp only [Act.put, List.setIfInBounds_toArray, List.set_cons_zero, List.set_cons_succ]
  refine take_till (i := 15) (some 3) (.int .i64 x2) rfl rfl (by kernel_rfl) (by kernel_rfl) (by kernel_rfl) (by kernel_rfl) (by decide) (fun _ _ _ h => h) (by rfl) (fun W hW => ?_) hS ?_
  · obtain ⟨c0, k0, k1⟩ := HX.out W hW
    clear hW
    go_simp
  simp only [Act.put, List.setIfInBounds_toArray, List.set_cons_zero, List.set_cons_succ]
  refine take_till (i := 16) (some 4) (.int .i64 0) rfl rfl (by kernel_rfl) (by kernel_rfl) (by kernel_rfl) (by kernel_rfl) (by decide) (fun _ _ _ h => h) (by rfl) (fun W hW => ?_) hS ?_
  · obtain ⟨c0, k0, k1⟩ := HX.out W hW
    clear hW
    go_simp
  simp only [Act.put, List.setIfInBounds_toArray, List.set_cons_zero, List.set_cons_succ]
  refine done_till (by kernel_rfl) ?_ _
  go_wp2
  go_ret3
  exact ⟨rfl, hS⟩

set_option maxRecDepth 100000 in
set_option maxHeartbeats 4000000 in
theorem push_any (h : Hp w b l F) (k i : Int) (hn : l.length ≤ 4294967290) : Calls Try.prog 10 #[ptr b, .int .i64 k, .int .i64 i] w fun e w' => e = .returned (err 0) ∧ ∃ F', Hp w' b ((k, i) :: l) F' ∧ Step F w w' F' := by
  obtain ⟨v, r, h1, h2, h3⟩ := h
  have c0 := h1.cel.cell 0
  simp only [List.getElem?_cons_zero] at c0
  obtain ⟨hro, hrd⟩ := h1.lit (k, i)
  have hlen : r.length + [(k, i)].length ≤ 4294967296 := by
    have := h3.length_eq
    simp
    omega
  have hbs := h1.cel.lt
  have c1 : (w.alloc (.cells #[.int .i64 k, .int .i64 i] tThing)).cell? ⟨b, 0, none⟩ = some v := ((h1.cel.alloc (.cells #[.int .i64 k, .int .i64 i] tThing)).cell 0)
  have hnb := h1.2.2.2
  have hcel := h1.cel
  have HH := Lib.hid (And.intro h1 (And.intro h2 (And.intro h3 hlen)))
  clear h1 h2 h3
  go_enter Try.func10, Try.ntmps10
  go_wp2_with (at_builtin; refine wpList_append_ro th_ty rfl _ _ rfl rfl rfl hro hrd hlen ?_; intro v' w6 ro6 st6 gr6 lo6; obtain ⟨k6, f6⟩ := HH.out.1.cel6 (x := (k, i)) gr6; have hP := Lib.hid (HH.out.1.pushed (k, i) ro6 st6 gr6 lo6); obtain ⟨va, vc, rfl, -, -⟩ := ro6.shape; clear ro6 st6 gr6 lo6 hro hrd)
  obtain ⟨F', hM, hS⟩ := hP.out
  simp only [List.length_append, List.length_singleton] at hM hS
  obtain ⟨h1, h2, h3, hlen⟩ := HH.out
  have U := up_any hM (by simp) (by rw [List.length_append]; exact UpAt.start h2 (k, i))
  have HS := Lib.hid (And.intro hS h3)
  clear hP hM hS h1 h2 h3 hlen
  go_wp2_with fail
  refine U.mono ?_
  rintro e w7 ⟨rfl, r', m1, m2, m3, m4⟩
  have HM7 := Lib.hid (And.intro m1 (And.intro m2 (And.intro m3 m4)))
  clear m1 m2 m3 m4 U
  go_wp2
  go_ret
  obtain ⟨m1, m2, m3, m4⟩ := HM7.out
  refine ⟨rfl, F', ⟨_, r', m1, m2, ?_⟩, HS.out.1.trans ⟨m4, fun q hq => .inl hq⟩⟩
  exact m3.trans ((List.perm_append_comm (l₁ := r) (l₂ := [(k, i)])).trans (HS.out.2.cons _))

set_option maxRecDepth 100000 in
set_option maxHeartbeats 4000000 in
theorem pop_some (h : Hp w b l F) (hx : Fst l x) (hn : l.length ≤ 4294967290) : Calls Try.prog 12 #[ptr b] w fun e w' => e = .returned (.tuple #[.int .i64 x.1, .int .i64 x.2, err 0]) ∧ Hp w' b (l.erase x) F ∧ Step F w w' F := by
  have PK := peek_some h hx
  obtain ⟨g, cap, r, h1, h2, h3, hr⟩ := h.top hx
  have hn0 := (List.getElem?_eq_some_iff.1 hr).1
  have hrl := h3.length_eq
  obtain ⟨n, hnr⟩ : ∃ n, n = r.length := ⟨_, rfl⟩
  obtain ⟨m, hmn⟩ : ∃ m, n = m + 1 := ⟨n - 1, by omega⟩
  have hnm : (n : Int) - 1 = (m : Int) := by omega
  obtain ⟨z, hz⟩ : ∃ z, r[m]? = some z := ⟨_, List.getElem?_eq_getElem (by omega)⟩
  have hm1 : (m : Int) < (n : Int) := by omega
  have hm0 : (0 : Int) ≤ (m : Int) := by omega
  have hn1 : (0 : Int) < (n : Int) := by omega
  have hnp : 0 < n := by omega
  have hnb : (n : Int) ≤ 4294967290 := by omega
  obtain ⟨x1, x2⟩ := x
  obtain ⟨z1, z2⟩ := z
  have HH := Lib.hid (And.intro h1 (And.intro h2 (And.intro h3 (And.intro hr (And.intro hnr (And.intro hmn (And.intro hz (And.intro hn0 hrl))))))))
  clear h1 h2 h3 hr hnr hmn hz hn0 hrl h hn
  go_enter Try.func12, Try.ntmps12
  go_wp2_with fail
  refine PK.mono ?_
  rintro e w1 ⟨rfl, hb1⟩
  clear PK
  obtain ⟨h1, h2, h3, hr, hnr, hmn, hz, hn0, hrl⟩ := HH.out
  have g1 := h1.below hb1
  have c0 := g1.cel.cell 0
  simp only [List.getElem?_cons_zero] at c0
  rw [← hnr] at c0
  obtain ⟨g', cap', e0, k0, k1⟩ := g1.row.at hz
  simp only [Value.slice.injEq, Option.some.injEq, Addr.mk.injEq, and_true, true_and] at e0
  obtain ⟨rfl, rfl⟩ := e0
  obtain ⟨g', cap', e0, i0, i1⟩ := g1.row.at hr
  simp only [Value.slice.injEq, Option.some.injEq, Addr.mk.injEq, and_true, true_and] at e0
  obtain ⟨rfl, rfl⟩ := e0
  simp only [Nat.zero_mul, Nat.zero_add] at i0 i1
  simp only at k0 k1
  have f0 := fun j => Row.free g1.row j
  have hS1 := g1.set (i := 0) hn0 (z1, z2)
  have hcb0 := hS1.cel.cell 0
  have hfb0 := hS1.cel.frozen 0
  have HX := Lib.hid (fun (W : World) (hW : W.heap = w1.heap) => show W.cell? ⟨b, 0, none⟩ = some (.slice (some ⟨g, 0, none⟩) n cap) ∧ W.cell? ⟨g, m * 2, none⟩ = some (.int .i64 z1) ∧ W.cell? ⟨g, m * 2 + 1, none⟩ = some (.int .i64 z2) from
    ⟨by rw [World.cell?, hW]; exact c0, by rw [World.cell?, hW]; exact k0, by rw [World.cell?, hW]; exact k1⟩)
  have HG := Lib.hid (And.intro g1 hb1)
  clear h1 h2 h3 hr hnr hmn hz hn0 hrl g1 hb1 hS1 k0 k1 hcb0 hfb0
  go_wp2_with fail
  refine region_till 12 (fun W => W.heap = w1.heap) (by kernel_rfl) rfl (fun hS => ?_)
  refine take_till (i := 0) (some 21) (.pointer (some ⟨b, 0, none⟩)) rfl rfl (by kernel_rfl) (by kernel_rfl) (by kernel_rfl) (by kernel_rfl) (by decide) (fun _ _ _ h => h) (by rfl) (fun W hW => ?_) hS ?_
  · obtain ⟨c0, k0, k1⟩ := HX.out W hW
    clear hW
    go_simp
  simp only [Act.put, List.setIfInBounds_toArray, List.set_cons_zero, List.set_cons_succ]
  refine take_till (i := 1) (some 22) (.pointer (some ⟨b, 0, none⟩)) rfl rfl (by kernel_rfl) (by kernel_rfl) (by kernel_rfl) (by kernel_rfl) (by decide) (fun _ _ _ h => h) (by rfl) (fun W hW => ?_) hS ?_
  · obtain ⟨c0, k0, k1⟩ := HX.out W hW
    clear hW
    go_simp
  simp only [Act.put, List.setIfInBounds_toArray, List.set_cons_zero, List.set_cons_succ]
  refine take_till (i := 2) (some 23) (.pointer (some ⟨b, 0, none⟩)) rfl rfl (by kernel_rfl) (by kernel_rfl) (by kernel_rfl) (by kernel_rfl) (by decide) (fun _ _ _ h => h) (by rfl) (fun W hW => ?_) hS ?_
  · obtain ⟨c0, k0, k1⟩ := HX.out W hW
    clear hW
    go_simp
  simp only [Act.put, List.setIfInBounds_toArray, List.set_cons_zero, List.set_cons_succ]
  refine take_till (i := 3) (some 24) (.slice (some ⟨g, 0, none⟩) n cap) rfl rfl (by kernel_rfl) (by kernel_rfl) (by kernel_rfl) (by kernel_rfl) (by decide) (fun _ _ _ h => h) (by rfl) (fun W hW => ?_) hS ?_
  · obtain ⟨c0, k0, k1⟩ := HX.out W hW
    clear hW
    go_simp
  simp only [Act.put, List.setIfInBounds_toArray, List.set_cons_zero, List.set_cons_succ]
  refine take_till (i := 4) (some 25) (.pointer (some ⟨b, 0, none⟩)) rfl rfl (by kernel_rfl) (by kernel_rfl) (by kernel_rfl) (by kernel_rfl) (by decide) (fun _ _ _ h => h) (by rfl) (fun W hW => ?_) hS ?_
  · obtain ⟨c0, k0, k1⟩ := HX.out W hW
    clear hW
    go_simp
  simp only [Act.put, List.setIfInBounds_toArray, List.set_cons_zero, List.set_cons_succ]
  refine take_till (i := 5) (some 26) (.pointer (some ⟨b, 0, none⟩)) rfl rfl (by kernel_rfl) (by kernel_rfl) (by kernel_rfl) (by kernel_rfl) (by decide) (fun _ _ _ h => h) (by rfl) (fun W hW => ?_) hS ?_
  · obtain ⟨c0, k0, k1⟩ := HX.out W hW
    clear hW
    go_simp
  simp only [Act.put, List.setIfInBounds_toArray, List.set_cons_zero, List.set_cons_succ]
  refine take_till (i := 6) (some 27) (.pointer (some ⟨b, 0, none⟩)) rfl rfl (by kernel_rfl) (by kernel_rfl) (by kernel_rfl) (by kernel_rfl) (by decide) (fun _ _ _ h => h) (by rfl) (fun W hW => ?_) hS ?_
  · obtain ⟨c0, k0, k1⟩ := HX.out W hW
    clear hW
    go_simp
  simp only [Act.put, List.setIfInBounds_toArray, List.set_cons_zero, List.set_cons_succ]
  refine take_till (i := 7) (some 28) (.slice (some ⟨g, 0, none⟩) n cap) rfl rfl (by kernel_rfl) (by kernel_rfl) (by kernel_rfl) (by kernel_rfl) (by decide) (fun _ _ _ h => h) (by rfl) (fun W hW => ?_) hS ?_
  · obtain ⟨c0, k0, k1⟩ := HX.out W hW
    clear hW
    go_simp
  simp only [Act.put, List.setIfInBounds_toArray, List.set_cons_zero, List.set_cons_succ]
  refine take_till (i := 8) (some 29) (.int .i64 (m : Int)) rfl rfl (by kernel_rfl) (by kernel_rfl) (by kernel_rfl) (by kernel_rfl) (by decide) (fun _ _ _ h => h) (by rfl) (fun W hW => ?_) hS ?_
  · obtain ⟨c0, k0, k1⟩ := HX.out W hW
    clear hW
    go_simp
  simp only [Act.put, List.setIfInBounds_toArray, List.set_cons_zero, List.set_cons_succ]
  refine take_till (i := 9) (some 30) (.pointer (some ⟨g, m * 2, none⟩)) rfl rfl (by kernel_rfl) (by kernel_rfl) (by kernel_rfl) (by kernel_rfl) (by decide) (fun _ _ _ h => h) (by rfl) (fun W hW => ?_) hS ?_
  · obtain ⟨c0, k0, k1⟩ := HX.out W hW
    clear hW
    go_simp
  simp only [Act.put, List.setIfInBounds_toArray, List.set_cons_zero, List.set_cons_succ]
  refine take_till (i := 10) (some 31) (.agg #[.int .i64 z1, .int .i64 z2]) rfl rfl (by kernel_rfl) (by kernel_rfl) (by kernel_rfl) (by kernel_rfl) (by decide) (fun _ _ _ h => h) (by rfl) (fun W hW => ?_) hS ?_
  · obtain ⟨c0, k0, k1⟩ := HX.out W hW
    clear hW
    go_simp
  simp only [Act.put, List.setIfInBounds_toArray, List.set_cons_zero, List.set_cons_succ]
  refine take_till (i := 11) (some 32) (.pointer (some ⟨g, 0, none⟩)) rfl rfl (by kernel_rfl) (by kernel_rfl) (by kernel_rfl) (by kernel_rfl) (by decide) (fun _ _ _ h => h) (by rfl) (fun W hW => ?_) hS ?_
  · obtain ⟨c0, k0, k1⟩ := HX.out W hW
    clear hW
    go_simp
  simp only [Act.put, List.setIfInBounds_toArray, List.set_cons_zero, List.set_cons_succ]
  have e0 : (w1.drew).cell? ⟨g, 0, none⟩ = some (.int .i64 x1) := i0
  have e1 : (w1.drew).cell? ⟨g, 1, none⟩ = some (.int .i64 x2) := i1
  have hf' : ∀ j, (w1.drew).frozen? ⟨g, j, none⟩ = false := f0
  have hO : Only F w w1.drew := (Only.of_below HG.out.2 F).drew
  have hM : HM tHeap tThing w1.drew b (.slice (some ⟨g, 0, none⟩) r.length cap) r F := HG.out.1.kept fun _ _ => rfl
  generalize w1.drew = W at *
  clear c0 i0 i1 f0
  refine next_till 12 (by kernel_rfl) rfl (fun K hK => ?_)
  go_simp
  refine hK.out _ _ (fun h => absurd rfl h) ?_
  clear hK K
  obtain ⟨h1, h2, h3, hr, hnr, hmn, hz, hn0, hrl⟩ := HH.out
  have hM2 := hM.set (i := 0) hn0 (z1, z2)
  have hO2 := hM.only_set (hM.only_set hO 0 (.int .i64 z1)) 1 (.int .i64 z2)
  have hM2' : HM tHeap tThing ((W.setCell ⟨g, 0, none⟩ (.int .i64 z1)).setCell ⟨g, 1, none⟩ (.int .i64 z2)) b (.slice (some ⟨g, 0, none⟩) (r.set 0 (z1, z2)).length cap) (r.set 0 (z1, z2)) F := by
    rw [List.length_set]
    exact hM2
  clear hM2 hM e0 e1 hf' hO
  generalize (W.setCell ⟨g, 0, none⟩ (.int .i64 z1)).setCell ⟨g, 1, none⟩ (.int .i64 z2) = W2 at *
  have c0 := hM2'.cel.cell 0
  simp only [List.getElem?_cons_zero, List.length_set] at c0
  rw [← hnr] at c0
  have f0 := hM2'.cel.frozen 0
  have hM3 := hM2'.fewer (n := m) (by rw [List.length_set]; omega)
  have hO3 := hM2'.only_b hO2 (.slice (some ⟨g, 0, none⟩) m cap)
  have hrm : r.length - 1 = m := by omega
  have D := down_any hM3 (by have := DownAt.start h2 (z1, z2); rw [hrm] at this; exact this) (by rw [List.length_take, List.length_set]; omega)
  have hp : ((r.set 0 (z1, z2)).take m).Perm (l.erase (x1, x2)) := by
    have h4 := dropTop_perm hr (by rw [hrm]; exact hz)
    rw [hrm] at h4
    have h5 := (h4.trans h3).erase (x1, x2)
    rw [List.erase_cons_head] at h5
    exact h5
  have hmc : (m : Int) ≤ (cap : Int) := by
    rcases h1.row.shape with ⟨e, _⟩ | ⟨g', cap', e, _, h6, _⟩
    · simp at e
    · simp only [Value.slice.injEq, Option.some.injEq, Addr.mk.injEq, and_true, true_and] at e
      obtain ⟨_, rfl⟩ := e
      omega
  have HD := Lib.hid (And.intro hO3 hp)
  clear h1 h2 h3 hr hnr hmn hz hn0 hrl hM2' hM3 hO2 hO3 hrm hp
  refine done_till (by kernel_rfl) ?_ _
  go_wp2_with fail
  refine D.mono ?_
  rintro e w7 ⟨rfl, r', m1, m2, m3, m4⟩
  have HM7 := Lib.hid (And.intro m1 (And.intro m2 (And.intro m3 m4)))
  clear m1 m2 m3 m4 D
  go_wp2
  go_ret3
  obtain ⟨m1, m2, m3, m4⟩ := HM7.out
  exact ⟨rfl, ⟨_, r', m1, m2, m3.trans HD.out.2⟩, HD.out.1.trans m4, fun q hq => .inl hq⟩
end
end Go.Proofs.Ytfpjipmlhbimoaa
