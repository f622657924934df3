/- The document's heap: Push, Peek and Pop; condition: fewer than 2^32 things. -/
import Derived.Test.YtfpjipmlhbimoaaHpRef
namespace Go.Proofs.Ytfpjipmlhbimoaa
open Go.RowKit

section
variable {w w' w0 : World} {b : Nat} {v : Value} {l r m : List Th} {F : Nat → Prop} {x : Th} {T : Res}
theorem AtF.some {k : Int} (h : AtF r r.length k) (hp : r.Perm l) (hx : Fst l x) : ∃ j : Nat, k = (j : Int) ∧ r[j]? = some x := by
  rcases h with ⟨h0, _⟩ | ⟨j, y, rfl, hj, hy, hle⟩
  · exact absurd (List.eq_nil_of_length_eq_zero h0) fun e => hx.ne (by subst e; simpa using hp.symm)
  · refine ⟨j, rfl, ?_⟩
    have hf : Fst r y := ⟨List.mem_of_getElem? hy, fun z hz => by
      obtain ⟨i, hi⟩ := List.mem_iff_getElem?.1 hz
      exact hle i z (List.getElem?_eq_some_iff.1 hi).1 hi⟩
    rw [hy, (hx.perm hp.symm).eq hf]

theorem rpeek0 (h : RR b [] w F) : Calls Try.prog 15 #[ptr b] w fun e w' => e = .returned (.tuple #[.int .i64 0, .int .i64 0, err 4]) ∧ Below w.heap.size w w' := by
  obtain ⟨v, r, h1, h2⟩ := h
  obtain rfl : r = [] := by simpa using h2
  have A := first_any h1 (by simp)
  clear h1 h2
  go_enter Try.func15, Try.ntmps15
  go_wp2_with fail
  refine A.mono ?_
  rintro e w1 ⟨⟨k, rfl, hk⟩, hb⟩
  obtain rfl : k = -1 := by
    rcases hk with ⟨_, h⟩ | ⟨j, x, _, hj, _⟩
    · exact h
    · simp at hj
  clear A hk
  go_wp2
  go_ret3
  exact ⟨rfl, hb⟩
set_option maxRecDepth 100000 in
set_option maxHeartbeats 4000000 in
theorem rpeek_any (h : RR b l w F) (hx : Fst l x) (hn : l.length ≤ 4294967290) : Calls Try.prog 15 #[ptr b] w fun e w' => e = .returned (.tuple #[.int .i64 x.1, .int .i64 x.2, err 0]) ∧ Below w.heap.size w w' := by
  obtain ⟨v, r, h1, h2⟩ := h
  have A := first_any h1 (by rw [h2.length_eq]; omega)
  have HH := Lib.hid (And.intro h1 (And.intro h2 hx))
  clear h1 h2 hx hn
  go_enter Try.func15, Try.ntmps15
  go_wp2_with fail
  refine A.mono ?_
  rintro e w1 ⟨⟨k, rfl, hk⟩, hb⟩
  clear A
  obtain ⟨h1, h2, hx⟩ := HH.out
  obtain ⟨j, rfl, hj⟩ := hk.some h2 hx
  have g1 := h1.below hb
  have c0 := g1.cel.cell 0
  simp only [List.getElem?_cons_zero] at c0
  obtain ⟨g, cap, rfl, k0, k1⟩ := g1.row.at hj
  have hjl := (List.getElem?_eq_some_iff.1 hj).1
  obtain ⟨n, hnr⟩ : ∃ n, n = r.length := ⟨_, rfl⟩
  rw [← hnr] at c0 hjl
  have hj0 : (0 : Int) ≤ (j : Int) := by omega
  have hjn : (j : Int) < (n : Int) := by omega
  have hj2 : ¬ (j : Int) < 0 := by omega
  obtain ⟨x1, x2⟩ := x
  simp only at k0 k1
  have hcl := fun {a : Addr} {u : Value} {W : World} (hW : Below w1.heap.size w1 W) (hc : w1.cell? a = some u) => (hW.cell (p := a) (World.block_lt_of_cell? w1 _ hc)).trans hc
  have HX := Lib.hid (fun (W : World) (hW : Below w1.heap.size w1 W) => And.intro (hcl hW c0) (And.intro (hcl hW k0) (hcl hW k1)))
  have HB := Lib.hid hb
  clear h1 h2 hx hk hj g1 c0 k0 k1 hcl hb hnr
  go_wp2_with fail
  refine region_till 99 (fun W => Below w1.heap.size w1 W) (by kernel_rfl) (below_drewN (Below.refl _ _) 1) (fun hS => ?_)
  refine take_till (i := 0) (some 10) (.pointer (some ⟨b, 0, none⟩)) rfl rfl (by kernel_rfl) (by kernel_rfl) (by kernel_rfl) (by kernel_rfl) (by decide) (fun _ _ _ h => h) (by rfl) (fun W hW => ?_) hS ?_
  · obtain ⟨c0, k0, k1⟩ := HX.out W hW
    clear hW
    go_simp
  simp only [Act.put, List.setIfInBounds_toArray, List.set_cons_zero, List.set_cons_succ]
  refine take_till (i := 1) (some 11) (.pointer (some ⟨b, 0, none⟩)) rfl rfl (by kernel_rfl) (by kernel_rfl) (by kernel_rfl) (by kernel_rfl) (by decide) (fun _ _ _ h => h) (by rfl) (fun W hW => ?_) hS ?_
  · obtain ⟨c0, k0, k1⟩ := HX.out W hW
    clear hW
    go_simp
  simp only [Act.put, List.setIfInBounds_toArray, List.set_cons_zero, List.set_cons_succ]
  refine take_till (i := 2) (some 12) (.pointer (some ⟨b, 0, none⟩)) rfl rfl (by kernel_rfl) (by kernel_rfl) (by kernel_rfl) (by kernel_rfl) (by decide) (fun _ _ _ h => h) (by rfl) (fun W hW => ?_) hS ?_
  · obtain ⟨c0, k0, k1⟩ := HX.out W hW
    clear hW
    go_simp
  simp only [Act.put, List.setIfInBounds_toArray, List.set_cons_zero, List.set_cons_succ]
  refine take_till (i := 3) (some 13) (.slice (some ⟨g, 0, none⟩) n cap) rfl rfl (by kernel_rfl) (by kernel_rfl) (by kernel_rfl) (by kernel_rfl) (by decide) (fun _ _ _ h => h) (by rfl) (fun W hW => ?_) hS ?_
  · obtain ⟨c0, k0, k1⟩ := HX.out W hW
    clear hW
    go_simp
  simp only [Act.put, List.setIfInBounds_toArray, List.set_cons_zero, List.set_cons_succ]
  refine take_till (i := 4) (some 14) (.int .i64 (j : Int)) rfl rfl (by kernel_rfl) (by kernel_rfl) (by kernel_rfl) (by kernel_rfl) (by decide) (fun _ _ _ h => h) (by rfl) (fun W hW => ?_) hS ?_
  · obtain ⟨c0, k0, k1⟩ := HX.out W hW
    clear hW
    go_simp
  simp only [Act.put, List.setIfInBounds_toArray, List.set_cons_zero, List.set_cons_succ]
  refine take_till (i := 5) (some 15) (.pointer (some ⟨g, j * 2, none⟩)) rfl rfl (by kernel_rfl) (by kernel_rfl) (by kernel_rfl) (by kernel_rfl) (by decide) (fun _ _ _ h => h) (by rfl) (fun W hW => ?_) hS ?_
  · obtain ⟨c0, k0, k1⟩ := HX.out W hW
    clear hW
    go_simp
  simp only [Act.put, List.setIfInBounds_toArray, List.set_cons_zero, List.set_cons_succ]
  refine take_till (i := 6) (some 16) (.pointer (some ⟨g, j * 2, none⟩)) rfl rfl (by kernel_rfl) (by kernel_rfl) (by kernel_rfl) (by kernel_rfl) (by decide) (fun _ _ _ h => h) (by rfl) (fun W hW => ?_) hS ?_
  · obtain ⟨c0, k0, k1⟩ := HX.out W hW
    clear hW
    go_simp
  simp only [Act.put, List.setIfInBounds_toArray, List.set_cons_zero, List.set_cons_succ]
  refine take_till (i := 7) (some 17) (.int .i64 x1) rfl rfl (by kernel_rfl) (by kernel_rfl) (by kernel_rfl) (by kernel_rfl) (by decide) (fun _ _ _ h => h) (by rfl) (fun W hW => ?_) hS ?_
  · obtain ⟨c0, k0, k1⟩ := HX.out W hW
    clear hW
    go_simp
  simp only [Act.put, List.setIfInBounds_toArray, List.set_cons_zero, List.set_cons_succ]
  refine take_till (i := 8) (some 18) (.pointer (some ⟨b, 0, none⟩)) rfl rfl (by kernel_rfl) (by kernel_rfl) (by kernel_rfl) (by kernel_rfl) (by decide) (fun _ _ _ h => h) (by rfl) (fun W hW => ?_) hS ?_
  · obtain ⟨c0, k0, k1⟩ := HX.out W hW
    clear hW
    go_simp
  simp only [Act.put, List.setIfInBounds_toArray, List.set_cons_zero, List.set_cons_succ]
  refine take_till (i := 9) (some 19) (.pointer (some ⟨b, 0, none⟩)) rfl rfl (by kernel_rfl) (by kernel_rfl) (by kernel_rfl) (by kernel_rfl) (by decide) (fun _ _ _ h => h) (by rfl) (fun W hW => ?_) hS ?_
  · obtain ⟨c0, k0, k1⟩ := HX.out W hW
    clear hW
    go_simp
  simp only [Act.put, List.setIfInBounds_toArray, List.set_cons_zero, List.set_cons_succ]
  refine take_till (i := 10) (some 20) (.pointer (some ⟨b, 0, none⟩)) rfl rfl (by kernel_rfl) (by kernel_rfl) (by kernel_rfl) (by kernel_rfl) (by decide) (fun _ _ _ h => h) (by rfl) (fun W hW => ?_) hS ?_
  · obtain ⟨c0, k0, k1⟩ := HX.out W hW
    clear hW
    go_simp
  simp only [Act.put, List.setIfInBounds_toArray, List.set_cons_zero, List.set_cons_succ]
  refine take_till (i := 11) (some 21) (.slice (some ⟨g, 0, none⟩) n cap) rfl rfl (by kernel_rfl) (by kernel_rfl) (by kernel_rfl) (by kernel_rfl) (by decide) (fun _ _ _ h => h) (by rfl) (fun W hW => ?_) hS ?_
  · obtain ⟨c0, k0, k1⟩ := HX.out W hW
    clear hW
    go_simp
  simp only [Act.put, List.setIfInBounds_toArray, List.set_cons_zero, List.set_cons_succ]
  refine take_till (i := 12) (some 22) (.int .i64 (j : Int)) rfl rfl (by kernel_rfl) (by kernel_rfl) (by kernel_rfl) (by kernel_rfl) (by decide) (fun _ _ _ h => h) (by rfl) (fun W hW => ?_) hS ?_
  · obtain ⟨c0, k0, k1⟩ := HX.out W hW
    clear hW
    go_simp
  simp only [Act.put, List.setIfInBounds_toArray, List.set_cons_zero, List.set_cons_succ]
  refine take_till (i := 13) (some 23) (.pointer (some ⟨g, j * 2, none⟩)) rfl rfl (by kernel_rfl) (by kernel_rfl) (by kernel_rfl) (by kernel_rfl) (by decide) (fun _ _ _ h => h) (by rfl) (fun W hW => ?_) hS ?_
  · obtain ⟨c0, k0, k1⟩ := HX.out W hW
    clear hW
    go_simp
  simp only [Act.put, List.setIfInBounds_toArray, List.set_cons_zero, List.set_cons_succ]
  refine take_till (i := 14) (some 24) (.pointer (some ⟨g, j * 2 + 1, none⟩)) rfl rfl (by kernel_rfl) (by kernel_rfl) (by kernel_rfl) (by kernel_rfl) (by decide) (fun _ _ _ h => h) (by rfl) (fun W hW => ?_) hS ?_
  · obtain ⟨c0, k0, k1⟩ := HX.out W hW
    clear hW
    go_simp
  simp only [Act.put, List.setIfInBounds_toArray, List.set_cons_zero, List.set_cons_succ]
  refine take_till (i := 15) (some 25) (.int .i64 x2) rfl rfl (by kernel_rfl) (by kernel_rfl) (by kernel_rfl) (by kernel_rfl) (by decide) (fun _ _ _ h => h) (by rfl) (fun W hW => ?_) hS ?_
  · obtain ⟨c0, k0, k1⟩ := HX.out W hW
    clear hW
    go_simp
  simp only [Act.put, List.setIfInBounds_toArray, List.set_cons_zero, List.set_cons_succ]
  refine take_till (i := 16) (some 2) (.int .i64 x1) rfl rfl (by kernel_rfl) (by kernel_rfl) (by kernel_rfl) (by kernel_rfl) (by decide) (fun _ _ _ h => h) (by rfl) (fun W hW => ?_) hS ?_
  · obtain ⟨c0, k0, k1⟩ := HX.out W hW
    clear hW
    go_simp
  simp only [Act.put, List.setIfInBounds_toArray, List.set_cons_zero, List.set_cons_succ]
  refine take_till (i := 17) (some 3) (.int .i64 x2) rfl rfl (by kernel_rfl) (by kernel_rfl) (by kernel_rfl) (by kernel_rfl) (by decide) (fun _ _ _ h => h) (by rfl) (fun W hW => ?_) hS ?_
  · obtain ⟨c0, k0, k1⟩ := HX.out W hW
    clear hW
    go_simp
  simp only [Act.put, List.setIfInBounds_toArray, List.set_cons_zero, List.set_cons_succ]
  refine take_till (i := 18) (some 4) (.int .i64 0) rfl rfl (by kernel_rfl) (by kernel_rfl) (by kernel_rfl) (by kernel_rfl) (by decide) (fun _ _ _ h => h) (by rfl) (fun W hW => ?_) hS ?_
  · obtain ⟨c0, k0, k1⟩ := HX.out W hW
    clear hW
    go_simp
  simp only [Act.put, List.setIfInBounds_toArray, List.set_cons_zero, List.set_cons_succ]
  refine done_till (by kernel_rfl) ?_ _
  go_wp2
  go_ret3
  exact ⟨rfl, HB.out.trans (hS.mono HB.out.size)⟩

theorem rpush_any (h : RR b l w F) (k i : Int) (hn : l.length ≤ 4294967290) : Calls Try.prog 11 #[ptr b, .int .i64 k, .int .i64 i] w fun e w' => e = .returned (.tuple #[]) ∧ ∃ F', RR b ((k, i) :: l) w' F' ∧ Step F w w' F' := by
  obtain ⟨v, r, h1, h3⟩ := h
  have c0 := h1.cel.cell 0
  simp only [List.getElem?_cons_zero] at c0
  obtain ⟨hro, hrd⟩ := h1.lit (k, i)
  have hlen : r.length + [(k, i)].length ≤ 4294967296 := by
    have := h3.length_eq
    simp
    omega
  have hbs := h1.cel.lt
  have c1 : (w.alloc (.cells #[.int .i64 k, .int .i64 i] tRT)).cell? ⟨b, 0, none⟩ = some v := ((h1.cel.alloc (.cells #[.int .i64 k, .int .i64 i] tRT)).cell 0)
  have HH := Lib.hid (And.intro h1 (And.intro h3 hlen))
  clear h1 h3
  go_enter Try.func11, Try.ntmps11
  go_wp2_with (at_builtin; refine wpList_append_ro rt_ty rfl _ _ rfl rfl rfl hro hrd hlen ?_; intro v' w6 ro6 st6 gr6 lo6; obtain ⟨k6, f6⟩ := HH.out.1.cel6 (x := (k, i)) gr6; have hP := Lib.hid (HH.out.1.pushed (k, i) ro6 st6 gr6 lo6); obtain ⟨va, vc, rfl, -, -⟩ := ro6.shape; clear ro6 st6 gr6 lo6 hro hrd)
  go_end0
  obtain ⟨F', hM, hS⟩ := hP.out
  obtain ⟨h1, h3, hlen⟩ := HH.out
  simp only [List.length_append, List.length_singleton] at hM hS
  exact ⟨rfl, F', ⟨_, _, hM, (List.perm_append_comm (l₁ := r) (l₂ := [(k, i)])).trans (h3.cons _)⟩, hS⟩

/-- One of a row taken away, the last one in its place. -/
theorem cut_perm {j n : Nat} {z : Th} (hj : r[j]? = some x) (hz : r[n]? = some z) (hn : r.length = n + 1) : ((r.set j z).take n).Perm (r.erase x) := by
  have h1 : (x :: (r.set j z).take n).Perm r := by
    rw [List.perm_iff_count]
    intro y
    have h2 := set_count hj z y
    have h3 : (r.set j z) = (r.set j z).take n ++ [if j = n then z else z] := by
      have hl : (r.set j z).length = n + 1 := by rw [List.length_set]; exact hn
      have hz2 : (r.set j z)[n]? = some z := by
        by_cases e : j = n
        · subst e
          rw [List.getElem?_set_self (by omega)]
        · rw [List.getElem?_set_ne e]
          exact hz
      rw [ite_self]
      have e1 : (r.set j z).take (n + 1) = (r.set j z).take n ++ [z] := by
        rw [List.take_add_one, hz2]
        rfl
      rw [List.take_of_length_le (by omega)] at e1
      exact e1
    rw [ite_self] at h3
    have h4 := congrArg (List.count y) h3
    rw [List.count_append, List.count_singleton] at h4
    rw [List.count_cons]
    omega
  have := h1.erase x
  rwa [List.erase_cons_head] at this
theorem rpop0 (h : RR b [] w F) : Calls Try.prog 13 #[ptr b] w fun e w' => e = .returned (.tuple #[.int .i64 0, .int .i64 0, err 4]) ∧ Below w.heap.size w w' := by
  have P := rpeek0 h
  clear h
  go_enter Try.func13, Try.ntmps13
  go_wp2_with fail
  refine P.mono ?_
  rintro e w1 ⟨rfl, hb⟩
  go_wp2
  go_ret3
  exact ⟨rfl, hb⟩

set_option maxRecDepth 100000 in
set_option maxHeartbeats 4000000 in
theorem rpop_any (h : RR b l w F) (hx : Fst l x) (hn : l.length ≤ 4294967290) : Calls Try.prog 13 #[ptr b] w fun e w' => e = .returned (.tuple #[.int .i64 x.1, .int .i64 x.2, err 0]) ∧ RR b (l.erase x) w' F ∧ Step F w w' F := by
  have PK := rpeek_any h hx hn
  obtain ⟨v, r, h1, h2⟩ := h
  have A : ∀ W, Below w.heap.size w W → _ := fun W hW => first_any (h1.below hW) (by rw [h2.length_eq]; omega)
  have hrl := h2.length_eq
  have hne : 0 < r.length := by
    have := List.length_pos_iff.2 hx.ne
    omega
  have HH := Lib.hid (And.intro h1 (And.intro h2 (And.intro hx (And.intro hne (And.intro hrl hn)))))
  have HA := Lib.hid A
  clear h1 h2 hx hn hrl hne A
  go_enter Try.func13, Try.ntmps13
  go_wp2_with fail
  refine PK.mono ?_
  rintro e w1 ⟨rfl, hb1⟩
  clear PK
  have HB1 := Lib.hid hb1
  clear hb1
  go_wp2_with fail
  refine (HA.out _ HB1.out).mono ?_
  rintro e w2 ⟨⟨k, rfl, hk⟩, hb2⟩
  clear HA
  obtain ⟨h1, h2, hx, hne, hrl, hn⟩ := HH.out
  obtain ⟨j, rfl, hj⟩ := hk.some h2 hx
  have hb := HB1.out.trans (hb2.mono HB1.out.size)
  have g1 := h1.below hb
  have c0 := g1.cel.cell 0
  simp only [List.getElem?_cons_zero] at c0
  obtain ⟨n, hnr⟩ : ∃ n, n = r.length := ⟨_, rfl⟩
  obtain ⟨m, hmn⟩ : ∃ m, n = m + 1 := ⟨n - 1, by omega⟩
  obtain ⟨z, hz⟩ : ∃ z, r[m]? = some z := ⟨_, List.getElem?_eq_getElem (by omega)⟩
  obtain ⟨g, cap, rfl, k0, k1⟩ := g1.row.at hz
  obtain ⟨g', cap', e0, i0, i1⟩ := g1.row.at hj
  simp only [Value.slice.injEq, Option.some.injEq, Addr.mk.injEq, and_true, true_and] at e0
  obtain ⟨rfl, rfl⟩ := e0
  have hjl := (List.getElem?_eq_some_iff.1 hj).1
  rw [← hnr] at c0 hjl
  have hj0 : (0 : Int) ≤ (j : Int) := by omega
  have hjn : (j : Int) < (n : Int) := by omega
  have hm0 : (0 : Int) ≤ (m : Int) := by omega
  have hm1 : (m : Int) < (n : Int) := by omega
  have hnm : (n : Int) - 1 = (m : Int) := by omega
  have hnb : (n : Int) ≤ 4294967290 := by omega
  have hmb : (m : Int) ≤ 4294967290 := by omega
  have hmc : (m : Int) ≤ (cap : Int) := by
    rcases h1.row.shape with ⟨e, _⟩ | ⟨g', cap', e, _, h6, _⟩
    · simp at e
    · simp only [Value.slice.injEq, Option.some.injEq, Addr.mk.injEq, and_true, true_and] at e
      obtain ⟨_, rfl⟩ := e
      omega
  obtain ⟨x1, x2⟩ := x
  obtain ⟨z1, z2⟩ := z
  simp only at k0 k1 i0 i1
  have f0 := fun j => Row.free g1.row j
  have HX := Lib.hid (fun (W : World) (hW : W.heap = w2.heap) => show W.cell? ⟨b, 0, none⟩ = some (.slice (some ⟨g, 0, none⟩) n cap) ∧ W.cell? ⟨g, m * 2, none⟩ = some (.int .i64 z1) ∧ W.cell? ⟨g, m * 2 + 1, none⟩ = some (.int .i64 z2) from
    ⟨by rw [World.cell?, hW]; exact c0, by rw [World.cell?, hW]; exact k0, by rw [World.cell?, hW]; exact k1⟩)
  have HG := Lib.hid (And.intro g1 (And.intro hb (And.intro hj (And.intro hz (And.intro hnr hmn)))))
  clear h1 h2 hx hne hrl hn hk hj hz hnr hmn hb hb2 g1 k0 k1
  go_wp2_with fail
  refine region_till 18 (fun W => W.heap = w2.heap) (by kernel_rfl) rfl (fun hS => ?_)
  refine take_till (i := 0) (some 19) (.pointer (some ⟨b, 0, none⟩)) rfl rfl (by kernel_rfl) (by kernel_rfl) (by kernel_rfl) (by kernel_rfl) (by decide) (fun _ _ _ h => h) (by rfl) (fun W hW => ?_) hS ?_
  · obtain ⟨c0, k0, k1⟩ := HX.out W hW
    clear hW
    go_simp
  simp only [Act.put, List.setIfInBounds_toArray, List.set_cons_zero, List.set_cons_succ]
  refine take_till (i := 1) (some 20) (.pointer (some ⟨b, 0, none⟩)) rfl rfl (by kernel_rfl) (by kernel_rfl) (by kernel_rfl) (by kernel_rfl) (by decide) (fun _ _ _ h => h) (by rfl) (fun W hW => ?_) hS ?_
  · obtain ⟨c0, k0, k1⟩ := HX.out W hW
    clear hW
    go_simp
  simp only [Act.put, List.setIfInBounds_toArray, List.set_cons_zero, List.set_cons_succ]
  refine take_till (i := 2) (some 21) (.pointer (some ⟨b, 0, none⟩)) rfl rfl (by kernel_rfl) (by kernel_rfl) (by kernel_rfl) (by kernel_rfl) (by decide) (fun _ _ _ h => h) (by rfl) (fun W hW => ?_) hS ?_
  · obtain ⟨c0, k0, k1⟩ := HX.out W hW
    clear hW
    go_simp
  simp only [Act.put, List.setIfInBounds_toArray, List.set_cons_zero, List.set_cons_succ]
  refine take_till (i := 3) (some 22) (.slice (some ⟨g, 0, none⟩) n cap) rfl rfl (by kernel_rfl) (by kernel_rfl) (by kernel_rfl) (by kernel_rfl) (by decide) (fun _ _ _ h => h) (by rfl) (fun W hW => ?_) hS ?_
  · obtain ⟨c0, k0, k1⟩ := HX.out W hW
    clear hW
    go_simp
  simp only [Act.put, List.setIfInBounds_toArray, List.set_cons_zero, List.set_cons_succ]
  refine take_till (i := 4) (some 23) (.int .i64 (j : Int)) rfl rfl (by kernel_rfl) (by kernel_rfl) (by kernel_rfl) (by kernel_rfl) (by decide) (fun _ _ _ h => h) (by rfl) (fun W hW => ?_) hS ?_
  · obtain ⟨c0, k0, k1⟩ := HX.out W hW
    clear hW
    go_simp
  simp only [Act.put, List.setIfInBounds_toArray, List.set_cons_zero, List.set_cons_succ]
  refine take_till (i := 5) (some 24) (.pointer (some ⟨b, 0, none⟩)) rfl rfl (by kernel_rfl) (by kernel_rfl) (by kernel_rfl) (by kernel_rfl) (by decide) (fun _ _ _ h => h) (by rfl) (fun W hW => ?_) hS ?_
  · obtain ⟨c0, k0, k1⟩ := HX.out W hW
    clear hW
    go_simp
  simp only [Act.put, List.setIfInBounds_toArray, List.set_cons_zero, List.set_cons_succ]
  refine take_till (i := 6) (some 25) (.pointer (some ⟨b, 0, none⟩)) rfl rfl (by kernel_rfl) (by kernel_rfl) (by kernel_rfl) (by kernel_rfl) (by decide) (fun _ _ _ h => h) (by rfl) (fun W hW => ?_) hS ?_
  · obtain ⟨c0, k0, k1⟩ := HX.out W hW
    clear hW
    go_simp
  simp only [Act.put, List.setIfInBounds_toArray, List.set_cons_zero, List.set_cons_succ]
  refine take_till (i := 7) (some 26) (.pointer (some ⟨b, 0, none⟩)) rfl rfl (by kernel_rfl) (by kernel_rfl) (by kernel_rfl) (by kernel_rfl) (by decide) (fun _ _ _ h => h) (by rfl) (fun W hW => ?_) hS ?_
  · obtain ⟨c0, k0, k1⟩ := HX.out W hW
    clear hW
    go_simp
  simp only [Act.put, List.setIfInBounds_toArray, List.set_cons_zero, List.set_cons_succ]
  refine take_till (i := 8) (some 27) (.slice (some ⟨g, 0, none⟩) n cap) rfl rfl (by kernel_rfl) (by kernel_rfl) (by kernel_rfl) (by kernel_rfl) (by decide) (fun _ _ _ h => h) (by rfl) (fun W hW => ?_) hS ?_
  · obtain ⟨c0, k0, k1⟩ := HX.out W hW
    clear hW
    go_simp
  simp only [Act.put, List.setIfInBounds_toArray, List.set_cons_zero, List.set_cons_succ]
  refine take_till (i := 9) (some 28) (.pointer (some ⟨b, 0, none⟩)) rfl rfl (by kernel_rfl) (by kernel_rfl) (by kernel_rfl) (by kernel_rfl) (by decide) (fun _ _ _ h => h) (by rfl) (fun W hW => ?_) hS ?_
  · obtain ⟨c0, k0, k1⟩ := HX.out W hW
    clear hW
    go_simp
  simp only [Act.put, List.setIfInBounds_toArray, List.set_cons_zero, List.set_cons_succ]
  refine take_till (i := 10) (some 29) (.pointer (some ⟨b, 0, none⟩)) rfl rfl (by kernel_rfl) (by kernel_rfl) (by kernel_rfl) (by kernel_rfl) (by decide) (fun _ _ _ h => h) (by rfl) (fun W hW => ?_) hS ?_
  · obtain ⟨c0, k0, k1⟩ := HX.out W hW
    clear hW
    go_simp
  simp only [Act.put, List.setIfInBounds_toArray, List.set_cons_zero, List.set_cons_succ]
  refine take_till (i := 11) (some 30) (.pointer (some ⟨b, 0, none⟩)) rfl rfl (by kernel_rfl) (by kernel_rfl) (by kernel_rfl) (by kernel_rfl) (by decide) (fun _ _ _ h => h) (by rfl) (fun W hW => ?_) hS ?_
  · obtain ⟨c0, k0, k1⟩ := HX.out W hW
    clear hW
    go_simp
  simp only [Act.put, List.setIfInBounds_toArray, List.set_cons_zero, List.set_cons_succ]
  refine take_till (i := 12) (some 31) (.slice (some ⟨g, 0, none⟩) n cap) rfl rfl (by kernel_rfl) (by kernel_rfl) (by kernel_rfl) (by kernel_rfl) (by decide) (fun _ _ _ h => h) (by rfl) (fun W hW => ?_) hS ?_
  · obtain ⟨c0, k0, k1⟩ := HX.out W hW
    clear hW
    go_simp
  simp only [Act.put, List.setIfInBounds_toArray, List.set_cons_zero, List.set_cons_succ]
  refine take_till (i := 13) (some 32) (.int .i64 (n : Int)) rfl rfl (by kernel_rfl) (by kernel_rfl) (by kernel_rfl) (by kernel_rfl) (by decide) (fun _ _ _ h => h) (by rfl) (fun W hW => ?_) hS ?_
  · obtain ⟨c0, k0, k1⟩ := HX.out W hW
    clear hW
    go_simp
  simp only [Act.put, List.setIfInBounds_toArray, List.set_cons_zero, List.set_cons_succ]
  refine take_till (i := 14) (some 33) (.int .i64 (m : Int)) rfl rfl (by kernel_rfl) (by kernel_rfl) (by kernel_rfl) (by kernel_rfl) (by decide) (fun _ _ _ h => h) (by rfl) (fun W hW => ?_) hS ?_
  · obtain ⟨c0, k0, k1⟩ := HX.out W hW
    clear hW
    go_simp
    (rw [IntKind.wrap_i64]; omega)
  simp only [Act.put, List.setIfInBounds_toArray, List.set_cons_zero, List.set_cons_succ]
  refine take_till (i := 15) (some 34) (.pointer (some ⟨g, m * 2, none⟩)) rfl rfl (by kernel_rfl) (by kernel_rfl) (by kernel_rfl) (by kernel_rfl) (by decide) (fun _ _ _ h => h) (by rfl) (fun W hW => ?_) hS ?_
  · obtain ⟨c0, k0, k1⟩ := HX.out W hW
    clear hW
    go_simp
  simp only [Act.put, List.setIfInBounds_toArray, List.set_cons_zero, List.set_cons_succ]
  refine take_till (i := 16) (some 35) (.agg #[.int .i64 z1, .int .i64 z2]) rfl rfl (by kernel_rfl) (by kernel_rfl) (by kernel_rfl) (by kernel_rfl) (by decide) (fun _ _ _ h => h) (by rfl) (fun W hW => ?_) hS ?_
  · obtain ⟨c0, k0, k1⟩ := HX.out W hW
    clear hW
    go_simp
  simp only [Act.put, List.setIfInBounds_toArray, List.set_cons_zero, List.set_cons_succ]
  refine take_till (i := 17) (some 36) (.pointer (some ⟨g, j * 2, none⟩)) rfl rfl (by kernel_rfl) (by kernel_rfl) (by kernel_rfl) (by kernel_rfl) (by decide) (fun _ _ _ h => h) (by rfl) (fun W hW => ?_) hS ?_
  · obtain ⟨c0, k0, k1⟩ := HX.out W hW
    clear hW
    go_simp
  simp only [Act.put, List.setIfInBounds_toArray, List.set_cons_zero, List.set_cons_succ]
  have e0 : (w2.drew).cell? ⟨g, j * 2, none⟩ = some (.int .i64 x1) := i0
  have e1 : (w2.drew).cell? ⟨g, j * 2 + 1, none⟩ = some (.int .i64 x2) := i1
  have hf' : ∀ j, (w2.drew).frozen? ⟨g, j, none⟩ = false := f0
  have hO : Only F w w2.drew := (Only.of_below HG.out.2.1 F).drew
  have hM : HM tRH tRT w2.drew b (.slice (some ⟨g, 0, none⟩) r.length cap) r F := HG.out.1.kept fun _ _ => rfl
  generalize w2.drew = W at *
  clear c0 i0 i1 f0
  refine next_till 18 (by kernel_rfl) rfl (fun K hK => ?_)
  go_simp
  refine hK.out _ _ (fun h => absurd rfl h) ?_
  clear hK K
  obtain ⟨h1, h2, hx, hne, hrl, hn⟩ := HH.out
  obtain ⟨g1, hb, hj, hz, hnr, hmn⟩ := HG.out
  have hM2 := hM.set (i := j) (by rw [← hnr]; exact hjl) (z1, z2)
  have hO2 := hM.only_set (hM.only_set hO (j * 2) (.int .i64 z1)) (j * 2 + 1) (.int .i64 z2)
  have hM2' : HM tRH tRT ((W.setCell ⟨g, j * 2, none⟩ (.int .i64 z1)).setCell ⟨g, j * 2 + 1, none⟩ (.int .i64 z2)) b (.slice (some ⟨g, 0, none⟩) (r.set j (z1, z2)).length cap) (r.set j (z1, z2)) F := by
    rw [List.length_set]
    exact hM2
  clear hM2 hM e0 e1 hf' hO hS
  generalize (W.setCell ⟨g, j * 2, none⟩ (.int .i64 z1)).setCell ⟨g, j * 2 + 1, none⟩ (.int .i64 z2) = W2 at *
  have hM3 := hM2'.fewer (n := m) (by rw [List.length_set]; omega)
  have hO3 := hM2'.only_b hO2 (.slice (some ⟨g, 0, none⟩) m cap)
  have hp : ((r.set j (z1, z2)).take m).Perm (l.erase (x1, x2)) := (cut_perm hj hz (by omega)).trans (h2.erase _)
  have c0 := hM2'.cel.cell 0
  simp only [List.getElem?_cons_zero, List.length_set] at c0
  rw [← hnr] at c0
  have f0 := hM2'.cel.frozen 0
  have HD := Lib.hid (And.intro hM3 (And.intro hO3 hp))
  have HC := Lib.hid (And.intro c0 f0)
  have HX2 := Lib.hid (fun (W : World) (hW : W.heap = W2.heap) => show W.cell? ⟨b, 0, none⟩ = some (.slice (some ⟨g, 0, none⟩) n cap) from by rw [World.cell?, hW]; exact c0)
  clear h1 h2 hx hne hrl hn g1 hb hj hz hnr hmn hM2' hM3 hO2 hO3 hp HX c0 f0
  refine done_till (by kernel_rfl) ?_ _
  have c0 := HC.out.1
  go_wp2_with fail
  refine region_till 14 (fun W => W.heap = W2.heap) (by kernel_rfl) rfl (fun hS => ?_)
  refine take_till (i := 0) (some 37) (.pointer (some ⟨b, 0, none⟩)) rfl rfl (by kernel_rfl) (by kernel_rfl) (by kernel_rfl) (by kernel_rfl) (by decide) (fun _ _ _ h => h) (by rfl) (fun W hW => ?_) hS ?_
  · have c0 := HX2.out W hW
    clear hW
    go_simp
  simp only [Act.put, List.setIfInBounds_toArray, List.set_cons_zero, List.set_cons_succ]
  refine take_till (i := 1) (some 38) (.pointer (some ⟨b, 0, none⟩)) rfl rfl (by kernel_rfl) (by kernel_rfl) (by kernel_rfl) (by kernel_rfl) (by decide) (fun _ _ _ h => h) (by rfl) (fun W hW => ?_) hS ?_
  · have c0 := HX2.out W hW
    clear hW
    go_simp
  simp only [Act.put, List.setIfInBounds_toArray, List.set_cons_zero, List.set_cons_succ]
  refine take_till (i := 2) (some 39) (.pointer (some ⟨b, 0, none⟩)) rfl rfl (by kernel_rfl) (by kernel_rfl) (by kernel_rfl) (by kernel_rfl) (by decide) (fun _ _ _ h => h) (by rfl) (fun W hW => ?_) hS ?_
  · have c0 := HX2.out W hW
    clear hW
    go_simp
  simp only [Act.put, List.setIfInBounds_toArray, List.set_cons_zero, List.set_cons_succ]
  refine take_till (i := 3) (some 40) (.pointer (some ⟨b, 0, none⟩)) rfl rfl (by kernel_rfl) (by kernel_rfl) (by kernel_rfl) (by kernel_rfl) (by decide) (fun _ _ _ h => h) (by rfl) (fun W hW => ?_) hS ?_
  · have c0 := HX2.out W hW
    clear hW
    go_simp
  simp only [Act.put, List.setIfInBounds_toArray, List.set_cons_zero, List.set_cons_succ]
  refine take_till (i := 4) (some 41) (.slice (some ⟨g, 0, none⟩) n cap) rfl rfl (by kernel_rfl) (by kernel_rfl) (by kernel_rfl) (by kernel_rfl) (by decide) (fun _ _ _ h => h) (by rfl) (fun W hW => ?_) hS ?_
  · have c0 := HX2.out W hW
    clear hW
    go_simp
  simp only [Act.put, List.setIfInBounds_toArray, List.set_cons_zero, List.set_cons_succ]
  refine take_till (i := 5) (some 42) (.pointer (some ⟨b, 0, none⟩)) rfl rfl (by kernel_rfl) (by kernel_rfl) (by kernel_rfl) (by kernel_rfl) (by decide) (fun _ _ _ h => h) (by rfl) (fun W hW => ?_) hS ?_
  · have c0 := HX2.out W hW
    clear hW
    go_simp
  simp only [Act.put, List.setIfInBounds_toArray, List.set_cons_zero, List.set_cons_succ]
  refine take_till (i := 6) (some 43) (.pointer (some ⟨b, 0, none⟩)) rfl rfl (by kernel_rfl) (by kernel_rfl) (by kernel_rfl) (by kernel_rfl) (by decide) (fun _ _ _ h => h) (by rfl) (fun W hW => ?_) hS ?_
  · have c0 := HX2.out W hW
    clear hW
    go_simp
  simp only [Act.put, List.setIfInBounds_toArray, List.set_cons_zero, List.set_cons_succ]
  refine take_till (i := 7) (some 44) (.pointer (some ⟨b, 0, none⟩)) rfl rfl (by kernel_rfl) (by kernel_rfl) (by kernel_rfl) (by kernel_rfl) (by decide) (fun _ _ _ h => h) (by rfl) (fun W hW => ?_) hS ?_
  · have c0 := HX2.out W hW
    clear hW
    go_simp
  simp only [Act.put, List.setIfInBounds_toArray, List.set_cons_zero, List.set_cons_succ]
  refine take_till (i := 8) (some 45) (.slice (some ⟨g, 0, none⟩) n cap) rfl rfl (by kernel_rfl) (by kernel_rfl) (by kernel_rfl) (by kernel_rfl) (by decide) (fun _ _ _ h => h) (by rfl) (fun W hW => ?_) hS ?_
  · have c0 := HX2.out W hW
    clear hW
    go_simp
  simp only [Act.put, List.setIfInBounds_toArray, List.set_cons_zero, List.set_cons_succ]
  refine take_till (i := 9) (some 46) (.int .i64 (n : Int)) rfl rfl (by kernel_rfl) (by kernel_rfl) (by kernel_rfl) (by kernel_rfl) (by decide) (fun _ _ _ h => h) (by rfl) (fun W hW => ?_) hS ?_
  · have c0 := HX2.out W hW
    clear hW
    go_simp
  simp only [Act.put, List.setIfInBounds_toArray, List.set_cons_zero, List.set_cons_succ]
  refine take_till (i := 10) (some 47) (.int .i64 (m : Int)) rfl rfl (by kernel_rfl) (by kernel_rfl) (by kernel_rfl) (by kernel_rfl) (by decide) (fun _ _ _ h => h) (by rfl) (fun W hW => ?_) hS ?_
  · have c0 := HX2.out W hW
    clear hW
    go_simp
    (rw [IntKind.wrap_i64]; omega)
  simp only [Act.put, List.setIfInBounds_toArray, List.set_cons_zero, List.set_cons_succ]
  refine take_till (i := 11) (some 48) (.slice (some ⟨g, 0, none⟩) m cap) rfl rfl (by kernel_rfl) (by kernel_rfl) (by kernel_rfl) (by kernel_rfl) (by decide) (fun _ _ _ h => h) (by rfl) (fun W hW => ?_) hS ?_
  · have c0 := HX2.out W hW
    clear hW
    go_simp
  simp only [Act.put, List.setIfInBounds_toArray, List.set_cons_zero, List.set_cons_succ]
  refine next_till 12 (by kernel_rfl) rfl (fun K hK => ?_)
  go_simp
  refine hK.out _ _ (fun _ => hS) ?_
  clear hK K
  refine next_till 13 (by kernel_rfl) rfl (fun K hK => ?_)
  go_simp
  refine hK.out _ _ (fun _ => hS) ?_
  clear hK K
  have c2 : (W2.drew).cell? ⟨b, 0, none⟩ = some (.slice (some ⟨g, 0, none⟩) n cap) := HC.out.1
  have f2 : (W2.drew).frozen? ⟨b, 0, none⟩ = false := HC.out.2
  refine next_till 14 (by kernel_rfl) rfl (fun K hK => ?_)
  go_simp
  refine hK.out _ _ (fun h => absurd rfl h) ?_
  clear hK K
  refine done_till (by kernel_rfl) ?_ _
  go_wp2
  go_ret3
  obtain ⟨m1, m2, m3⟩ := HD.out
  refine ⟨rfl, ⟨_, _, m1.kept fun _ _ => rfl, m3⟩, ⟨m2.os, m2.tape, m2.output, m2.size, m2.block⟩, fun q hq => .inl hq⟩
end
end Go.Proofs.Ytfpjipmlhbimoaa
