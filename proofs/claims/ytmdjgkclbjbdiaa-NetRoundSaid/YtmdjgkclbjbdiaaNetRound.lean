/- The statement NetRound: as much around a way that closes, and no more anywhere, flows; with one more on one of its edges it does not, if that leads to another node; no condition. -/
import Derived.Test.YtmdjgkclbjbdiaaNtRing2
namespace Go.Proofs.Ytmdjgkclbjbdiaa
open Go.RowKit

theorem tmodN (a m : Nat) : Int.tmod (a : Int) (m : Int) = ((a % m : Nat) : Int) := (Int.ofNat_tmod a m).symm

theorem small_wrap {b : Nat} (h : b < 65536) : wrap64 (b : Int) = (b : Int) ∧ IntKind.i64.wrap (b : Int) = (b : Int) := ⟨by unfold wrap64; omega, IntWalk.i64_in _ (by omega)⟩

theorem wrap_more2 {b : Nat} (h : b < 65536) : wrap64 ((b : Int) + 1) = (b : Int) + 1 := by unfold wrap64; omega
theorem wrap_sum {C c : Int} (h : -4611686018427387904 ≤ C ∧ C ≤ 4611686018427387904) (h2 : -20 ≤ c ∧ c ≤ 20) : IntKind.i64.wrap (C + c) = C + c := IntWalk.i64_in _ (by omega)
theorem wrap_more {b : Nat} (h : b < 65536) : IntKind.i64.wrap ((b : Int) + 1) = (b : Int) + 1 ∧ IntKind.i64.wrap ((b : Int) - 20) = (b : Int) - 20 := ⟨IntWalk.i64_in _ (by omega), IntWalk.i64_in _ (by omega)⟩

set_option maxRecDepth 100000 in
set_option maxHeartbeats 8000000 in
theorem netRound_any (b more : Nat) (w : World) {wv : Value} {way : List UInt8} (hw : Bs w wv way) (hb : b < 65536) (hm : more < 256) : Calls Try.prog 6 #[wv, .int .u16 (b : Int), .int .u8 (more : Int)] w fun e w' => e = .returned (.bool true) ∧ Below w.heap.size w w' := by
  obtain ⟨wa, wc, rfl, hw⟩ := hw.shape
  obtain ⟨L, hL⟩ : ∃ L, L = way.length := ⟨_, rfl⟩
  rw [← hL] at hw ⊢
  by_cases h0 : L = 0
  · have h0i : (L : Int) = 0 := by omega
    clear hw hL hb hm
    subst h0
    go_enter Try.func6, Try.ntmps6
    go_wp2_with fail
    refine (works_any w).mono ?_
    rintro e w2 ⟨rfl, bl⟩
    go_wp2
    go_ret
    exact ⟨rfl, bl⟩
  have h0i : ¬ (L : Int) = 0 := by omega
  by_cases h40 : (40 : Int) < (L : Int)
  · have HL := Lib.hid h0
    have hq : ((L : Int) == 0) = false := by simpa using h0i
    clear hw hL hb hm h0
    go_enter Try.func6, Try.ntmps6
    go_wp2_with fail
    refine (works_any w).mono ?_
    rintro e w2 ⟨rfl, bl⟩
    go_wp2
    go_ret
    exact ⟨rfl, bl⟩
  have hq : ((L : Int) == 0) = false := by simpa using h0i
  obtain ⟨ns, hns⟩ : ∃ ns, ns = way.map UInt8.toNat := ⟨_, rfl⟩
  have hnl : ns.length = L := by rw [hns, hL]; simp
  rw [hL] at hw
  obtain ⟨g, o, wc', e0, -, -, hcells⟩ := hw.open (by omega)
  rw [← hL] at hw e0
  simp only [Value.slice.injEq] at e0
  obtain ⟨rfl, -, rfl⟩ := e0
  have hK : NR w ns b 0 0 (.slice none 0 0) (.slice none 0 0) (w.alloc (.cells #[.int .i64 40, .slice none 0 0] 24)) := ⟨(Below.refl _ _).alloc (Nat.le_refl _) _, Cel.new w _ _, Ro.nil _ _ _ _, Ro.nil _ _ _ _, fun q hq => by cases hq⟩
  have HK := Lib.hid hK
  have HN := Lib.hid (And.intro hnl (And.intro hns (And.intro hL (And.intro (show 0 < L by omega) (And.intro hb hm)))))
  have HC := Lib.hid (And.intro hw hcells)
  have hL40 : L ≤ 40 := by omega
  have hz0 : ¬ (L : Int) = 0 := h0i
  clear hK hnl hns hL hb hm hw hcells h0 h0i
  go_enter Try.func6, Try.ntmps6
  go_wp2
  generalize w.alloc (.cells #[.int .i64 40, .slice none 0 0] 24) = w1 at *
  go_loopw [8, 9] (fun f j wr => ∃ (k : Nat) (ev : Value), j = .int .i64 (k : Int) ∧ k ≤ L ∧ NR w ns b k k ev f wr) (fun _ j _ => L - (intOf j).toNat)
  case atStart => exact ⟨0, _, rfl, Nat.zero_le _, HK.out⟩
  case round =>
    obtain ⟨k, ev, rfl, hk, hN⟩ := hrel
    rcases Nat.lt_or_ge k L with hlt | hge
    · obtain ⟨hnl, hns, hL, hLp, hb, hm⟩ := HN.out
      obtain ⟨j, hj⟩ : ∃ j, j = (k + 1) % L := ⟨_, rfl⟩
      have hjl : j < L := by rw [hj]; exact Nat.mod_lt _ hLp
      obtain ⟨x, hx⟩ : ∃ x, way[k]? = some x := ⟨_, List.getElem?_eq_getElem (by omega)⟩
      obtain ⟨y, hy⟩ : ∃ y, way[j]? = some y := ⟨_, List.getElem?_eq_getElem (by omega)⟩
      obtain ⟨a, ha⟩ : ∃ a, a = x.toNat := ⟨_, rfl⟩
      obtain ⟨d, hd⟩ : ∃ d, d = y.toNat := ⟨_, rfl⟩
      obtain ⟨am, ham⟩ : ∃ am, am = a % 40 := ⟨_, rfl⟩
      obtain ⟨dm, hdm⟩ : ∃ dm, dm = d % 40 := ⟨_, rfl⟩
      have ha8 : a < 256 := by rw [ha]; exact x.toNat_lt
      have hd8 : d < 256 := by rw [hd]; exact y.toNat_lt
      obtain ⟨e, he⟩ : ∃ e : Ed, e = ⟨(am : Int), (dm : Int), (b : Int) + 1, (k : Int) - 20⟩ := ⟨_, rfl⟩
      have hrg : e = rgE ns b k := by
        rw [he]
        unfold rgE
        have h1 : ns.getD k 0 = a := by rw [hns, List.getD_eq_getElem?_getD, List.getElem?_map, hx, ha]; rfl
        have h2 : ns.getD ((k + 1) % ns.length) 0 = d := by rw [hnl, ← hj, hns, List.getD_eq_getElem?_getD, List.getElem?_map, hy, hd]; rfl
        rw [h1, h2, ham, hdm]
      have hc1 : ∀ W, Below w.heap.size w W → W.cell? ⟨g, o + k, none⟩ = some (.int .u8 (a : Int)) ∧ W.cell? ⟨g, o + j, none⟩ = some (.int .u8 (d : Int)) := fun W hW => by
        have c1 := HC.out.2 k x hx
        have c2 := HC.out.2 j y hy
        rw [ha, hd]
        exact ⟨(World.cell?_of_block (hW.block g (World.block_lt_of_cell? w _ c1))).trans c1, (World.cell?_of_block (hW.block g (World.block_lt_of_cell? w _ c2))).trans c2⟩
      have hLn : ¬ L = 0 := by omega
      have v1 : IntKind.i64.wrap (a : Int) = (a : Int) := (small_wrap (Nat.lt_trans ha8 (by decide))).2
      have v2 : IntKind.i64.wrap (d : Int) = (d : Int) := (small_wrap (Nat.lt_trans hd8 (by decide))).2
      have v3 : IntKind.i64.wrap ((k : Int) + 1) = (k : Int) + 1 := (wrap_more (Nat.lt_of_lt_of_le hlt (Nat.le_trans hL40 (by decide)))).1
      have v4 : IntKind.i64.wrap ((b : Int) + 1) = (b : Int) + 1 := (wrap_more hb).1
      have v5 : IntKind.i64.wrap ((k : Int) - 20) = (k : Int) - 20 := (wrap_more (Nat.lt_of_lt_of_le hlt (Nat.le_trans hL40 (by decide)))).2
      have t1 : Int.tmod (a : Int) 40 = (am : Int) := by rw [ham]; exact tmodN a 40
      have t2 : Int.tmod (d : Int) 40 = (dm : Int) := by rw [hdm]; exact tmodN d 40
      have t3 : Int.tmod ((k : Int) + 1) (L : Int) = (j : Int) := by rw [hj]; exact tmodN (k + 1) L
      have hki : (k : Int) < (L : Int) := by omega
      have hji : (j : Int) < (L : Int) := by omega
      have hk1 : (k : Int) ≤ 9223372036854775806 := by omega
      have hk0 : (0 : Int) ≤ (k : Int) := by omega
      have hj0 : (0 : Int) ≤ (j : Int) := by omega
      have hNd := hN.go ((Below.refl wr.heap.size wr).drew)
      have HS := Lib.hid (fun (W : World) (hW : Below w.heap.size w W ∧ W.cell? ⟨w.heap.size, 1, none⟩ = some ev) => And.intro hW.2 (hc1 W hW.1))
      have hS0 : Below w.heap.size w wr.drew ∧ wr.drew.cell? ⟨w.heap.size, 1, none⟩ = some ev := ⟨hNd.under, hNd.cel.net.2⟩
      have HX := Lib.hid (And.intro hNd (And.intro hrg (And.intro hlt he)))
      have hb6 : (b : Int) < 65536 := Int.ofNat_lt.2 hb
      have ha6 : (a : Int) < 256 := Int.ofNat_lt.2 ha8
      have hd6 : (d : Int) < 256 := Int.ofNat_lt.2 hd8
      have ham6 : (am : Int) < 40 := Int.ofNat_lt.2 (by rw [ham]; exact Nat.mod_lt _ (by decide))
      have hdm6 : (dm : Int) < 40 := Int.ofNat_lt.2 (by rw [hdm]; exact Nat.mod_lt _ (by decide))
      have hwb := (small_wrap hb).1
      have hwb2 := (small_wrap hb).2
      clear hN hNd hlt hk hnl hns hL hLp hb hm hj hjl hx hy ha hd ham hdm ha8 hd8 hrg hc1 he
      go_wp2
      refine region_till 27 (fun W => Below w.heap.size w W ∧ W.cell? ⟨w.heap.size, 1, none⟩ = some ev) (by kernel_rfl) hS0 (fun hS => ?_)
      clear hS0
      skip
      refine take_till (i := 0) (some 28) (.pointer (some ⟨w.heap.size, 1, none⟩)) rfl rfl (by kernel_rfl) (by kernel_rfl) (by kernel_rfl) (by kernel_rfl) (by decide) (fun _ _ _ h => h) (by rfl) (fun W hW => ?_) hS ?_
      · obtain ⟨c0, c1, c2⟩ := HS.out W hW
        clear hW
        go_simp
      simp only [Act.put, List.setIfInBounds_toArray, List.set_cons_zero, List.set_cons_succ]
      refine take_till (i := 1) (some 29) (ev) rfl rfl (by kernel_rfl) (by kernel_rfl) (by kernel_rfl) (by kernel_rfl) (by decide) (fun _ _ _ h => h) (by rfl) (fun W hW => ?_) hS ?_
      · obtain ⟨c0, c1, c2⟩ := HS.out W hW
        clear hW
        go_simp
      simp only [Act.put, List.setIfInBounds_toArray, List.set_cons_zero, List.set_cons_succ]
      refine take_till (i := 2) (some 30) (.slice (some ⟨g, o, none⟩) L wc) rfl rfl (by kernel_rfl) (by kernel_rfl) (by kernel_rfl) (by kernel_rfl) (by decide) (fun _ _ _ h => h) (by rfl) (fun W hW => ?_) hS ?_
      · obtain ⟨c0, c1, c2⟩ := HS.out W hW
        clear hW
        go_simp
      simp only [Act.put, List.setIfInBounds_toArray, List.set_cons_zero, List.set_cons_succ]
      refine take_till (i := 3) (some 31) (.int .i64 (k : Int)) rfl rfl (by kernel_rfl) (by kernel_rfl) (by kernel_rfl) (by kernel_rfl) (by decide) (fun _ _ _ h => h) (by rfl) (fun W hW => ?_) hS ?_
      · obtain ⟨c0, c1, c2⟩ := HS.out W hW
        clear hW
        go_simp
      simp only [Act.put, List.setIfInBounds_toArray, List.set_cons_zero, List.set_cons_succ]
      refine take_till (i := 4) (some 32) (.pointer (some ⟨g, o + k, none⟩)) rfl rfl (by kernel_rfl) (by kernel_rfl) (by kernel_rfl) (by kernel_rfl) (by decide) (fun _ _ _ h => h) (by rfl) (fun W hW => ?_) hS ?_
      · obtain ⟨c0, c1, c2⟩ := HS.out W hW
        clear hW
        go_simp
      simp only [Act.put, List.setIfInBounds_toArray, List.set_cons_zero, List.set_cons_succ]
      refine take_till (i := 5) (some 33) (.int .u8 (a : Int)) rfl rfl (by kernel_rfl) (by kernel_rfl) (by kernel_rfl) (by kernel_rfl) (by decide) (fun _ _ _ h => h) (by rfl) (fun W hW => ?_) hS ?_
      · obtain ⟨c0, c1, c2⟩ := HS.out W hW
        clear hW
        go_simp
      simp only [Act.put, List.setIfInBounds_toArray, List.set_cons_zero, List.set_cons_succ]
      refine take_till (i := 6) (some 34) (.int .i64 (a : Int)) rfl rfl (by kernel_rfl) (by kernel_rfl) (by kernel_rfl) (by kernel_rfl) (by decide) (fun _ _ _ h => h) (by rfl) (fun W hW => ?_) hS ?_
      · obtain ⟨c0, c1, c2⟩ := HS.out W hW
        clear hW
        go_simp
        all_goals exact v1
      simp only [Act.put, List.setIfInBounds_toArray, List.set_cons_zero, List.set_cons_succ]
      refine take_till (i := 7) (some 35) (.int .i64 (am : Int)) rfl rfl (by kernel_rfl) (by kernel_rfl) (by kernel_rfl) (by kernel_rfl) (by decide) (fun _ _ _ h => h) (by rfl) (fun W hW => ?_) hS ?_
      · obtain ⟨c0, c1, c2⟩ := HS.out W hW
        clear hW
        go_simp
      simp only [Act.put, List.setIfInBounds_toArray, List.set_cons_zero, List.set_cons_succ]
      refine take_till (i := 8) (some 36) (.slice (some ⟨g, o, none⟩) L wc) rfl rfl (by kernel_rfl) (by kernel_rfl) (by kernel_rfl) (by kernel_rfl) (by decide) (fun _ _ _ h => h) (by rfl) (fun W hW => ?_) hS ?_
      · obtain ⟨c0, c1, c2⟩ := HS.out W hW
        clear hW
        go_simp
      simp only [Act.put, List.setIfInBounds_toArray, List.set_cons_zero, List.set_cons_succ]
      refine take_till (i := 9) (some 37) (.int .i64 (k : Int)) rfl rfl (by kernel_rfl) (by kernel_rfl) (by kernel_rfl) (by kernel_rfl) (by decide) (fun _ _ _ h => h) (by rfl) (fun W hW => ?_) hS ?_
      · obtain ⟨c0, c1, c2⟩ := HS.out W hW
        clear hW
        go_simp
      simp only [Act.put, List.setIfInBounds_toArray, List.set_cons_zero, List.set_cons_succ]
      refine take_till (i := 10) (some 38) (.int .i64 ((k : Int) + 1)) rfl rfl (by kernel_rfl) (by kernel_rfl) (by kernel_rfl) (by kernel_rfl) (by decide) (fun _ _ _ h => h) (by rfl) (fun W hW => ?_) hS ?_
      · obtain ⟨c0, c1, c2⟩ := HS.out W hW
        clear hW
        go_simp
        all_goals exact v3
      simp only [Act.put, List.setIfInBounds_toArray, List.set_cons_zero, List.set_cons_succ]
      refine take_till (i := 11) (some 39) (.slice (some ⟨g, o, none⟩) L wc) rfl rfl (by kernel_rfl) (by kernel_rfl) (by kernel_rfl) (by kernel_rfl) (by decide) (fun _ _ _ h => h) (by rfl) (fun W hW => ?_) hS ?_
      · obtain ⟨c0, c1, c2⟩ := HS.out W hW
        clear hW
        go_simp
      simp only [Act.put, List.setIfInBounds_toArray, List.set_cons_zero, List.set_cons_succ]
      refine take_till (i := 12) (some 40) (.int .i64 (L : Int)) rfl rfl (by kernel_rfl) (by kernel_rfl) (by kernel_rfl) (by kernel_rfl) (by decide) (fun _ _ _ h => h) (by rfl) (fun W hW => ?_) hS ?_
      · obtain ⟨c0, c1, c2⟩ := HS.out W hW
        clear hW
        go_simp
      simp only [Act.put, List.setIfInBounds_toArray, List.set_cons_zero, List.set_cons_succ]
      refine take_till (i := 13) (some 41) (.int .i64 (j : Int)) rfl rfl (by kernel_rfl) (by kernel_rfl) (by kernel_rfl) (by kernel_rfl) (by decide) (fun _ _ _ h => h) (by rfl) (fun W hW => ?_) hS ?_
      · obtain ⟨c0, c1, c2⟩ := HS.out W hW
        clear hW
        go_simp
        all_goals exact hLn
      simp only [Act.put, List.setIfInBounds_toArray, List.set_cons_zero, List.set_cons_succ]
      refine take_till (i := 14) (some 42) (.pointer (some ⟨g, o + j, none⟩)) rfl rfl (by kernel_rfl) (by kernel_rfl) (by kernel_rfl) (by kernel_rfl) (by decide) (fun _ _ _ h => h) (by rfl) (fun W hW => ?_) hS ?_
      · obtain ⟨c0, c1, c2⟩ := HS.out W hW
        clear hW
        go_simp
      simp only [Act.put, List.setIfInBounds_toArray, List.set_cons_zero, List.set_cons_succ]
      refine take_till (i := 15) (some 43) (.int .u8 (d : Int)) rfl rfl (by kernel_rfl) (by kernel_rfl) (by kernel_rfl) (by kernel_rfl) (by decide) (fun _ _ _ h => h) (by rfl) (fun W hW => ?_) hS ?_
      · obtain ⟨c0, c1, c2⟩ := HS.out W hW
        clear hW
        go_simp
      simp only [Act.put, List.setIfInBounds_toArray, List.set_cons_zero, List.set_cons_succ]
      refine take_till (i := 16) (some 44) (.int .i64 (d : Int)) rfl rfl (by kernel_rfl) (by kernel_rfl) (by kernel_rfl) (by kernel_rfl) (by decide) (fun _ _ _ h => h) (by rfl) (fun W hW => ?_) hS ?_
      · obtain ⟨c0, c1, c2⟩ := HS.out W hW
        clear hW
        go_simp
        all_goals exact v2
      simp only [Act.put, List.setIfInBounds_toArray, List.set_cons_zero, List.set_cons_succ]
      refine take_till (i := 17) (some 45) (.int .i64 (dm : Int)) rfl rfl (by kernel_rfl) (by kernel_rfl) (by kernel_rfl) (by kernel_rfl) (by decide) (fun _ _ _ h => h) (by rfl) (fun W hW => ?_) hS ?_
      · obtain ⟨c0, c1, c2⟩ := HS.out W hW
        clear hW
        go_simp
      simp only [Act.put, List.setIfInBounds_toArray, List.set_cons_zero, List.set_cons_succ]
      refine take_till (i := 18) (some 46) (.int .u16 (b : Int)) rfl rfl (by kernel_rfl) (by kernel_rfl) (by kernel_rfl) (by kernel_rfl) (by decide) (fun _ _ _ h => h) (by rfl) (fun W hW => ?_) hS ?_
      · obtain ⟨c0, c1, c2⟩ := HS.out W hW
        clear hW
        go_simp
      simp only [Act.put, List.setIfInBounds_toArray, List.set_cons_zero, List.set_cons_succ]
      refine take_till (i := 19) (some 47) (.int .i64 (b : Int)) rfl rfl (by kernel_rfl) (by kernel_rfl) (by kernel_rfl) (by kernel_rfl) (by decide) (fun _ _ _ h => h) (by rfl) (fun W hW => ?_) hS ?_
      · obtain ⟨c0, c1, c2⟩ := HS.out W hW
        clear hW
        go_simp
        all_goals exact hwb2
      simp only [Act.put, List.setIfInBounds_toArray, List.set_cons_zero, List.set_cons_succ]
      refine take_till (i := 20) (some 48) (.int .i64 ((b : Int) + 1)) rfl rfl (by kernel_rfl) (by kernel_rfl) (by kernel_rfl) (by kernel_rfl) (by decide) (fun _ _ _ h => h) (by rfl) (fun W hW => ?_) hS ?_
      · obtain ⟨c0, c1, c2⟩ := HS.out W hW
        clear hW
        go_simp
        all_goals exact v4
      simp only [Act.put, List.setIfInBounds_toArray, List.set_cons_zero, List.set_cons_succ]
      refine take_till (i := 21) (some 49) (.int .i64 (k : Int)) rfl rfl (by kernel_rfl) (by kernel_rfl) (by kernel_rfl) (by kernel_rfl) (by decide) (fun _ _ _ h => h) (by rfl) (fun W hW => ?_) hS ?_
      · obtain ⟨c0, c1, c2⟩ := HS.out W hW
        clear hW
        go_simp
      simp only [Act.put, List.setIfInBounds_toArray, List.set_cons_zero, List.set_cons_succ]
      refine take_till (i := 22) (some 50) (.int .i64 ((k : Int) - 20)) rfl rfl (by kernel_rfl) (by kernel_rfl) (by kernel_rfl) (by kernel_rfl) (by decide) (fun _ _ _ h => h) (by rfl) (fun W hW => ?_) hS ?_
      · obtain ⟨c0, c1, c2⟩ := HS.out W hW
        clear hW
        go_simp
        all_goals exact v5
      simp only [Act.put, List.setIfInBounds_toArray, List.set_cons_zero, List.set_cons_succ]
      refine take_till (i := 23) (some 51) (.agg #[.int .i64 (am : Int), .int .i64 (dm : Int), .int .i64 ((b : Int) + 1), .int .i64 ((k : Int) - 20)]) rfl rfl (by kernel_rfl) (by kernel_rfl) (by kernel_rfl) (by kernel_rfl) (by decide) (fun _ _ _ h => h) (by rfl) (fun W hW => ?_) hS ?_
      · obtain ⟨c0, c1, c2⟩ := HS.out W hW
        clear hW
        go_simp
      simp only [Act.put, List.setIfInBounds_toArray, List.set_cons_zero, List.set_cons_succ]
      obtain ⟨hNd, hrg, hlt, he⟩ := HX.out
      obtain ⟨v', w', hr, ⟨pa, pn, pc, rfl⟩, hb', hc', hN'⟩ := hNd.edge (e := e) hrg (by omega)
      have hA := hNd.go ((Below.refl wr.drew.heap.size wr.drew).alloc (Nat.le_refl _) (.cells #[.int .i64 e.fr, .int .i64 e.to, .int .i64 e.cap, .int .i64 e.cost] 39))
      have hS1 : Below w.heap.size w (wr.drew.alloc (.cells #[.int .i64 e.fr, .int .i64 e.to, .int .i64 e.cap, .int .i64 e.cost] 39)) ∧ (wr.drew.alloc (.cells #[.int .i64 e.fr, .int .i64 e.to, .int .i64 e.cap, .int .i64 e.cost] 39)).cell? ⟨w.heap.size, 1, none⟩ = some ev := ⟨hA.under, hA.cel.net.2⟩
      rw [he] at hr hS1
      simp only at hr hS1
      obtain ⟨z0, z1⟩ := hc'.net
      have y1 := hc'.frozen 1
      have HE := Lib.hid (And.intro hb' (And.intro hc' (And.intro hN' hlt)))
      have HS1 := Lib.hid hS1
      clear hNd hrg hlt he hb' hc' hN' hA hS1 HX HS hS
      generalize wr.drew = wd at *
      refine next_till 24 (by kernel_rfl) rfl (fun K hK => ?_)
      go_simp
      refine hK.out _ _ (fun _ => HS1.out) ?_
      clear hK K
      refine next_till 25 (by kernel_rfl) rfl (fun K hK => ?_)
      refine wp_append_run (.tmp 29) (.tmp 52) _ rfl rfl rfl hr ?_
      refine hK.out _ _ (fun _ => ⟨HE.out.1, HE.out.2.1.net.2⟩) ?_
      simp only [Act.put, List.setIfInBounds_toArray]
      clear hK K hr HS1
      refine next_till 26 (by kernel_rfl) rfl (fun K hK => ?_)
      go_simp
      refine hK.out _ _ (fun _ => ⟨HE.out.1, HE.out.2.1.net.2⟩) ?_
      clear hK K
      refine next_till 27 (by kernel_rfl) rfl (fun K hK => ?_)
      go_simp
      refine hK.out _ _ (fun e => absurd rfl e) ?_
      clear hK K z0 z1 y1
      refine done_till (by kernel_rfl) ?_ _
      have HG := Lib.hid HE.out.2.2
      clear HE
      generalize w'.setCell ⟨w.heap.size, 1, none⟩ (.slice pa pn pc) = W3 at *
      obtain ⟨v2, w4, hr2, hN4⟩ := HG.out.1.num (by omega)
      have HF := Lib.hid (And.intro hN4 HG.out.2)
      clear hN4 HG
      go_wp2_with (at_builtin; refine nlist_append_run rfl (.tmp 55) (.tmp 58) _ rfl rfl rfl hr2 ?_)
      go_wp2
      go_roundw
      case rel => exact ⟨k + 1, .slice pa pn pc, by go_num, HF.out.2, HF.out.1⟩
      case measure =>
        have := HF.out.2
        simp only [intOf]
        omega
    · obtain rfl : k = L := by omega
      obtain ⟨hnl, hns, hL, hLp, hb, hm⟩ := HN.out
      have hki : ¬ (k : Int) < (k : Int) := by omega
      have hes : Es wr ev (rgEs ns b k) := hN.re.rd (fun _ h => h.elim) (fun _ _ h => h)
      have hne : u8 ≠ .slice none 0 0 := by
        rintro rfl
        obtain ⟨_, _, e, -, -⟩ := hN.rf.shape
        simp only [Value.slice.injEq] at e
        have := e.2.1
        simp [rgF] at this
        omega
      obtain ⟨g2, cap2, rfl, hrn, hcm, hg2⟩ := rn_of_ro hN.rf hne (by simp [rgF]; omega)
      obtain ⟨kk, hkk⟩ : ∃ kk, kk = more % k := ⟨_, rfl⟩
      have hkl : kk < k := by rw [hkk]; exact Nat.mod_lt _ hLp
      obtain ⟨E, hE⟩ : ∃ E, E = rgE ns b kk := ⟨_, rfl⟩
      obtain ⟨ge, oe, ec, e0, -⟩ := es_at hes (rgEs_at (ns := ns) (b := b) hkl)
      rw [rgEs_length] at e0
      subst e0
      rw [show (rgF b k).length = k by simp [rgF]] at hN ⊢
      have hgec : ge ≠ g2 := fun e => hN.apart ge rfl (by rw [e]; rfl)
      have hNQ : NQ w w.heap.size 40 (.slice (some ⟨ge, oe, none⟩) k ec) (rgEs ns b k) [(.slice (some ⟨g2, 0, none⟩) k cap2, rgF b k)] wr := ⟨hN.under, hN.cel, hes, fun p hp => by
        rw [List.mem_singleton.1 hp]
        have h := hrn.fs hcm
        rwa [show (rgF b k).length = k by simp [rgF]] at h⟩
      have q1 := rg_flows ns hb (by omega)
      have q2 := rg_within2 ns (k := k) (i := kk) hb (by omega)
      have q3 := rg_flows2 ns (i := kk) hb (by omega) (by omega)
      have q4 := rg_cost2 ns (i := kk) hb (by omega) (by omega)
      have q5 := rg_cost_le ns hb (by omega)
      rw [hnl] at q1 q3 q4 q5
      rw [← hE] at q3 q4
      have hEc : -20 ≤ E.cost ∧ E.cost ≤ 20 := by rw [hE]; unfold rgE; simp only; omega
      obtain ⟨B, hB⟩ : ∃ B : Bool, (E.fr == E.to) = B := ⟨_, rfl⟩
      have q6 : decide (FlowsP 40 (rgEs ns b k) ((rgF b k).set kk ((b : Int) + 1))) = B := by
        rw [← hB, Bool.eq_iff_iff, decide_eq_true_iff, q3, beq_iff_eq]
      obtain ⟨C, hC⟩ : ∃ C, C = costP 40 (rgEs ns b k) (rgF b k) := ⟨_, rfl⟩
      rw [← hC] at q4 q5
      have HQ := Lib.hid (And.intro q1 (And.intro q2 (And.intro q4 (And.intro q6 (And.intro hC hE)))))
      have HWC := Lib.hid (show IntKind.i64.wrap (C + E.cost) = C + E.cost from wrap_sum q5 hEc)
      have HR := Lib.hid (And.intro hrn (And.intro hcm (And.intro hg2 hgec)))
      have hkki : (kk : Int) < (k : Int) := by omega
      have hkk0 : (0 : Int) ≤ (kk : Int) := by omega
      have hb6 : (b : Int) < 65536 := by omega
      have hm6 : (more : Int) < 256 := by omega
      have hwm := (small_wrap (Nat.lt_trans hm (by decide))).1
      have hwm2 := (small_wrap (Nat.lt_trans hm (by decide))).2
      have hwb : wrap64 ((b : Int) + 1) = (b : Int) + 1 := (wrap_more2 hb)
      have t4 : Int.tmod (more : Int) (k : Int) = (kk : Int) := by rw [hkk]; exact tmodN more k
      have P := flows_any 40 (rgEs ns b k) (rgF b k) wr hNQ.es (hNQ.fl (.slice (some ⟨g2, 0, none⟩) k cap2, rgF b k) (by simp))
      rw [decide_eq_true HQ.out.1] at P
      obtain ⟨n0, n1⟩ := hNQ.net.net
      have HK := Lib.hid hNQ
      clear hNQ hN hes hne hrn hcm hg2 hkk hE hgec q1 q2 q3 q4 q6 hC hnl hns hL hLp hb hm hge hk HN
      go_wp2_with fail
      refine P.mono ?_
      rintro e2 w2 ⟨rfl, bl⟩
      have hNQ := HK.out.go bl
      have hrn := HR.out.1.below bl
      have P := cost_any 40 (rgEs ns b k) (rgF b k) w2 hNQ.es (hNQ.fl (.slice (some ⟨g2, 0, none⟩) k cap2, rgF b k) (by simp))
      rw [← HQ.out.2.2.2.2.1] at P
      clear n0 n1
      obtain ⟨n0, n1⟩ := hNQ.net.net
      clear HK
      have HK := Lib.hid (And.intro hNQ hrn)
      clear hNQ hrn bl
      go_wp2_with fail
      refine P.mono ?_
      rintro e3 w3 ⟨rfl, bl⟩
      have hNQ := HK.out.1.go bl
      have hrn := HK.out.2.below bl
      clear n0 n1 HK bl P
      have r0 := hrn.at (rgF_at (b := b) hkl)
      have r1 := hrn.frozen kk
      have hrn4 := hrn.set (i := kk) (by simpa [rgF] using hkl) ((b : Int) + 1)
      have ho4 : Only (fun q => q = g2) w3 (w3.setCell ⟨g2, kk, none⟩ (.int .i64 ((b : Int) + 1))) := (Only.refl (fun q => q = g2) w3).setCell (p := ⟨g2, kk, none⟩) (.inl rfl) _
      have h4 : NQ w w.heap.size 40 (.slice (some ⟨ge, oe, none⟩) k ec) (rgEs ns b k) [(.slice (some ⟨g2, 0, none⟩) k cap2, (rgF b k).set kk ((b : Int) + 1))] (w3.setCell ⟨g2, kk, none⟩ (.int .i64 ((b : Int) + 1))) := by
        refine ⟨hNQ.under.trans (ho4.below hNQ.under.size (fun q hq => by have := HR.out.2.2.1; omega)), hNQ.net.only ho4 (by have := HR.out.2.2.1; omega), es_apart hNQ.es ho4 (fun q hq hq2 => HR.out.2.2.2 (by cases hq; exact hq2)), fun p hp => ?_⟩
        rw [List.mem_singleton.1 hp]
        have h := hrn4.fs HR.out.2.1
        rwa [List.length_set, show (rgF b k).length = k by simp [rgF]] at h
      have H4 := Lib.hid h4
      clear hNQ hrn hrn4 ho4 h4
      go_wp2
      generalize w3.setCell ⟨g2, kk, none⟩ (.int .i64 ((b : Int) + 1)) = w5 at *
      have FACT := Lib.hid (show ∀ W, NQ w w.heap.size 40 (.slice (some ⟨ge, oe, none⟩) k ec) (rgEs ns b k) [(.slice (some ⟨g2, 0, none⟩) k cap2, (rgF b k).set kk ((b : Int) + 1))] W → (W.cell? ⟨w.heap.size, 0, none⟩ = some (.int .i64 40) ∧ W.cell? ⟨w.heap.size, 1, none⟩ = some (.slice (some ⟨ge, oe, none⟩) k ec)) ∧ W.cell? ⟨ge, oe + kk * 4, none⟩ = some (.int .i64 E.fr) ∧ W.cell? ⟨ge, oe + kk * 4 + 1, none⟩ = some (.int .i64 E.to) ∧ W.cell? ⟨ge, oe + kk * 4 + 3, none⟩ = some (.int .i64 E.cost) from by
        intro W hW
        obtain ⟨g', o', c', e', -, f0, f1, f2, f3⟩ := es_at hW.es (rgEs_at (ns := ns) (b := b) hkl)
        simp only [Value.slice.injEq, Option.some.injEq, Addr.mk.injEq] at e'
        obtain ⟨⟨rfl, rfl, -⟩, -, -⟩ := e'
        rw [HQ.out.2.2.2.2.2]
        exact ⟨hW.net.net, f0, f1, f3⟩)
      have HP := Lib.hid (show ∀ W, NQ w w.heap.size 40 (.slice (some ⟨ge, oe, none⟩) k ec) (rgEs ns b k) [(.slice (some ⟨g2, 0, none⟩) k cap2, (rgF b k).set kk ((b : Int) + 1))] W → (Calls Try.prog 15 #[netV 40 (.slice (some ⟨ge, oe, none⟩) k ec), .slice (some ⟨g2, 0, none⟩) k cap2] W fun e w' => e = .returned (.bool true) ∧ Below W.heap.size W w') ∧ (Calls Try.prog 17 #[netV 40 (.slice (some ⟨ge, oe, none⟩) k ec), .slice (some ⟨g2, 0, none⟩) k cap2] W fun e w' => e = .returned (.bool B) ∧ Below W.heap.size W w') ∧ (Calls Try.prog 19 #[netV 40 (.slice (some ⟨ge, oe, none⟩) k ec), .slice (some ⟨g2, 0, none⟩) k cap2] W fun e w' => e = .returned (.int .i64 (C + E.cost)) ∧ Below W.heap.size W w') from by
        intro W hW
        have f1 := hW.fl (.slice (some ⟨g2, 0, none⟩) k cap2, (rgF b k).set kk ((b : Int) + 1)) (by simp)
        have p1 := within_any 40 (rgEs ns b k) ((rgF b k).set kk ((b : Int) + 1)) W hW.es f1
        have p2 := flows_any 40 (rgEs ns b k) ((rgF b k).set kk ((b : Int) + 1)) W hW.es f1
        have p3 := cost_any 40 (rgEs ns b k) ((rgF b k).set kk ((b : Int) + 1)) W hW.es f1
        rw [decide_eq_true HQ.out.2.1] at p1
        rw [HQ.out.2.2.2.1] at p2
        rw [HQ.out.2.2.1] at p3
        exact ⟨p1, p2, p3⟩)
      have hS0 := H4.out.go ((Below.refl w5.heap.size w5).drew)
      have hbb : (B == B) = true := by simp
      have hB2 : decide (E.fr = E.to) = B := by rw [← hB, Bool.eq_iff_iff, decide_eq_true_iff, beq_iff_eq]
      have hcc : (C + E.cost == C + E.cost) = true := by simp
      clear q5 hEc
      have hwc : IntKind.i64.wrap (C + E.cost) = C + E.cost := HWC.out
      refine region_till 99 (fun W => NQ w w.heap.size 40 (.slice (some ⟨ge, oe, none⟩) k ec) (rgEs ns b k) [(.slice (some ⟨g2, 0, none⟩) k cap2, (rgF b k).set kk ((b : Int) + 1))] W) (by kernel_rfl) hS0 (fun hS => ?_)
      clear hS0 H4 HR HQ
      skip
      refine take_till (i := 0) (some 78) (.agg #[.int .i64 40, .slice (some ⟨ge, oe, none⟩) k ec]) rfl rfl (by kernel_rfl) (by kernel_rfl) (by kernel_rfl) (by kernel_rfl) (by decide) (fun _ _ _ h => h) (by rfl) (fun W hW => ?_) hS ?_
      · obtain ⟨⟨x0, x1⟩, f0, f1, f3⟩ := FACT.out W hW
        clear hW
        go_simp
      simp only [Act.put, List.setIfInBounds_toArray, List.set_cons_zero, List.set_cons_succ]
      refine take_till (i := 1) (some 79) (.slice (some ⟨g2, 0, none⟩) k cap2) rfl rfl (by kernel_rfl) (by kernel_rfl) (by kernel_rfl) (by kernel_rfl) (by decide) (fun _ _ _ h => h) (by rfl) (fun W hW => ?_) hS ?_
      · obtain ⟨⟨x0, x1⟩, f0, f1, f3⟩ := FACT.out W hW
        clear hW
        go_simp
      simp only [Act.put, List.setIfInBounds_toArray, List.set_cons_zero, List.set_cons_succ]
      generalize w5.drew = wd at *
      refine next_till 2 (by kernel_rfl) rfl (fun K hK => ?_)
      go_simp
      refine ((HP.out _ hS).1).mono ?_
      rintro e4 z2 ⟨rfl, bl⟩
      have hT := hS.go bl
      clear bl hS
      have hS := hT
      clear hT
      go_simp
      refine hK.out _ _ (fun _ => hS) ?_
      clear hK K
      refine next_till 3 (by kernel_rfl) rfl (fun K hK => ?_)
      go_simp
      refine hK.out _ _ (fun _ => hS) ?_
      clear hK K
      refine take_till (i := 4) (some 82) (.agg #[.int .i64 40, .slice (some ⟨ge, oe, none⟩) k ec]) rfl rfl (by kernel_rfl) (by kernel_rfl) (by kernel_rfl) (by kernel_rfl) (by decide) (fun _ _ _ h => h) (by rfl) (fun W hW => ?_) hS ?_
      · obtain ⟨⟨x0, x1⟩, f0, f1, f3⟩ := FACT.out W hW
        clear hW
        go_simp
      simp only [Act.put, List.setIfInBounds_toArray, List.set_cons_zero, List.set_cons_succ]
      refine take_till (i := 5) (some 83) (.slice (some ⟨g2, 0, none⟩) k cap2) rfl rfl (by kernel_rfl) (by kernel_rfl) (by kernel_rfl) (by kernel_rfl) (by decide) (fun _ _ _ h => h) (by rfl) (fun W hW => ?_) hS ?_
      · obtain ⟨⟨x0, x1⟩, f0, f1, f3⟩ := FACT.out W hW
        clear hW
        go_simp
      simp only [Act.put, List.setIfInBounds_toArray, List.set_cons_zero, List.set_cons_succ]
      refine take_till (i := 7) (some 85) (.pointer (some ⟨w.heap.size, 1, none⟩)) rfl rfl (by kernel_rfl) (by kernel_rfl) (by kernel_rfl) (by kernel_rfl) (by decide) (fun _ _ _ h => h) (by rfl) (fun W hW => ?_) hS ?_
      · obtain ⟨⟨x0, x1⟩, f0, f1, f3⟩ := FACT.out W hW
        clear hW
        go_simp
      simp only [Act.put, List.setIfInBounds_toArray, List.set_cons_zero, List.set_cons_succ]
      refine take_till (i := 8) (some 86) (.slice (some ⟨ge, oe, none⟩) k ec) rfl rfl (by kernel_rfl) (by kernel_rfl) (by kernel_rfl) (by kernel_rfl) (by decide) (fun _ _ _ h => h) (by rfl) (fun W hW => ?_) hS ?_
      · obtain ⟨⟨x0, x1⟩, f0, f1, f3⟩ := FACT.out W hW
        clear hW
        go_simp
      simp only [Act.put, List.setIfInBounds_toArray, List.set_cons_zero, List.set_cons_succ]
      refine take_till (i := 9) (some 87) (.int .i64 (kk : Int)) rfl rfl (by kernel_rfl) (by kernel_rfl) (by kernel_rfl) (by kernel_rfl) (by decide) (fun _ _ _ h => h) (by rfl) (fun W hW => ?_) hS ?_
      · obtain ⟨⟨x0, x1⟩, f0, f1, f3⟩ := FACT.out W hW
        clear hW
        go_simp
      simp only [Act.put, List.setIfInBounds_toArray, List.set_cons_zero, List.set_cons_succ]
      refine take_till (i := 10) (some 88) (.pointer (some ⟨ge, oe + kk * 4, none⟩)) rfl rfl (by kernel_rfl) (by kernel_rfl) (by kernel_rfl) (by kernel_rfl) (by decide) (fun _ _ _ h => h) (by rfl) (fun W hW => ?_) hS ?_
      · obtain ⟨⟨x0, x1⟩, f0, f1, f3⟩ := FACT.out W hW
        clear hW
        go_simp
      simp only [Act.put, List.setIfInBounds_toArray, List.set_cons_zero, List.set_cons_succ]
      refine take_till (i := 11) (some 89) (.pointer (some ⟨ge, oe + kk * 4, none⟩)) rfl rfl (by kernel_rfl) (by kernel_rfl) (by kernel_rfl) (by kernel_rfl) (by decide) (fun _ _ _ h => h) (by rfl) (fun W hW => ?_) hS ?_
      · obtain ⟨⟨x0, x1⟩, f0, f1, f3⟩ := FACT.out W hW
        clear hW
        go_simp
      simp only [Act.put, List.setIfInBounds_toArray, List.set_cons_zero, List.set_cons_succ]
      refine take_till (i := 12) (some 90) (.int .i64 E.fr) rfl rfl (by kernel_rfl) (by kernel_rfl) (by kernel_rfl) (by kernel_rfl) (by decide) (fun _ _ _ h => h) (by rfl) (fun W hW => ?_) hS ?_
      · obtain ⟨⟨x0, x1⟩, f0, f1, f3⟩ := FACT.out W hW
        clear hW
        go_simp
      simp only [Act.put, List.setIfInBounds_toArray, List.set_cons_zero, List.set_cons_succ]
      refine take_till (i := 13) (some 91) (.pointer (some ⟨w.heap.size, 1, none⟩)) rfl rfl (by kernel_rfl) (by kernel_rfl) (by kernel_rfl) (by kernel_rfl) (by decide) (fun _ _ _ h => h) (by rfl) (fun W hW => ?_) hS ?_
      · obtain ⟨⟨x0, x1⟩, f0, f1, f3⟩ := FACT.out W hW
        clear hW
        go_simp
      simp only [Act.put, List.setIfInBounds_toArray, List.set_cons_zero, List.set_cons_succ]
      refine take_till (i := 14) (some 92) (.slice (some ⟨ge, oe, none⟩) k ec) rfl rfl (by kernel_rfl) (by kernel_rfl) (by kernel_rfl) (by kernel_rfl) (by decide) (fun _ _ _ h => h) (by rfl) (fun W hW => ?_) hS ?_
      · obtain ⟨⟨x0, x1⟩, f0, f1, f3⟩ := FACT.out W hW
        clear hW
        go_simp
      simp only [Act.put, List.setIfInBounds_toArray, List.set_cons_zero, List.set_cons_succ]
      refine take_till (i := 15) (some 93) (.int .i64 (kk : Int)) rfl rfl (by kernel_rfl) (by kernel_rfl) (by kernel_rfl) (by kernel_rfl) (by decide) (fun _ _ _ h => h) (by rfl) (fun W hW => ?_) hS ?_
      · obtain ⟨⟨x0, x1⟩, f0, f1, f3⟩ := FACT.out W hW
        clear hW
        go_simp
      simp only [Act.put, List.setIfInBounds_toArray, List.set_cons_zero, List.set_cons_succ]
      refine take_till (i := 16) (some 94) (.pointer (some ⟨ge, oe + kk * 4, none⟩)) rfl rfl (by kernel_rfl) (by kernel_rfl) (by kernel_rfl) (by kernel_rfl) (by decide) (fun _ _ _ h => h) (by rfl) (fun W hW => ?_) hS ?_
      · obtain ⟨⟨x0, x1⟩, f0, f1, f3⟩ := FACT.out W hW
        clear hW
        go_simp
      simp only [Act.put, List.setIfInBounds_toArray, List.set_cons_zero, List.set_cons_succ]
      refine take_till (i := 17) (some 95) (.pointer (some ⟨ge, oe + kk * 4 + 1, none⟩)) rfl rfl (by kernel_rfl) (by kernel_rfl) (by kernel_rfl) (by kernel_rfl) (by decide) (fun _ _ _ h => h) (by rfl) (fun W hW => ?_) hS ?_
      · obtain ⟨⟨x0, x1⟩, f0, f1, f3⟩ := FACT.out W hW
        clear hW
        go_simp
      simp only [Act.put, List.setIfInBounds_toArray, List.set_cons_zero, List.set_cons_succ]
      refine take_till (i := 18) (some 96) (.int .i64 E.to) rfl rfl (by kernel_rfl) (by kernel_rfl) (by kernel_rfl) (by kernel_rfl) (by decide) (fun _ _ _ h => h) (by rfl) (fun W hW => ?_) hS ?_
      · obtain ⟨⟨x0, x1⟩, f0, f1, f3⟩ := FACT.out W hW
        clear hW
        go_simp
      simp only [Act.put, List.setIfInBounds_toArray, List.set_cons_zero, List.set_cons_succ]
      refine take_till (i := 19) (some 97) (.bool B) rfl rfl (by kernel_rfl) (by kernel_rfl) (by kernel_rfl) (by kernel_rfl) (by decide) (fun _ _ _ h => h) (by rfl) (fun W hW => ?_) hS ?_
      · obtain ⟨⟨x0, x1⟩, f0, f1, f3⟩ := FACT.out W hW
        clear hW
        go_simp
      simp only [Act.put, List.setIfInBounds_toArray, List.set_cons_zero, List.set_cons_succ]
      refine next_till 6 (by kernel_rfl) rfl (fun K hK => ?_)
      go_simp
      refine ((HP.out _ hS).2.1).mono ?_
      rintro e4 z6 ⟨rfl, bl⟩
      have hT := hS.go bl
      clear bl hS
      have hS := hT
      clear hT
      go_simp
      refine hK.out _ _ (fun _ => hS) ?_
      clear hK K
      refine next_till 20 (by kernel_rfl) rfl (fun K hK => ?_)
      go_simp
      refine hK.out _ _ (fun _ => hS) ?_
      clear hK K
      refine next_till 21 (by kernel_rfl) rfl (fun K hK => ?_)
      go_simp
      refine hK.out _ _ (fun _ => hS) ?_
      clear hK K
      refine next_till 22 (by kernel_rfl) rfl (fun K hK => ?_)
      go_simp
      refine hK.out _ _ (fun _ => hS) ?_
      clear hK K
      refine take_till (i := 23) (some 101) (.agg #[.int .i64 40, .slice (some ⟨ge, oe, none⟩) k ec]) rfl rfl (by kernel_rfl) (by kernel_rfl) (by kernel_rfl) (by kernel_rfl) (by decide) (fun _ _ _ h => h) (by rfl) (fun W hW => ?_) hS ?_
      · obtain ⟨⟨x0, x1⟩, f0, f1, f3⟩ := FACT.out W hW
        clear hW
        go_simp
      simp only [Act.put, List.setIfInBounds_toArray, List.set_cons_zero, List.set_cons_succ]
      refine take_till (i := 24) (some 102) (.slice (some ⟨g2, 0, none⟩) k cap2) rfl rfl (by kernel_rfl) (by kernel_rfl) (by kernel_rfl) (by kernel_rfl) (by decide) (fun _ _ _ h => h) (by rfl) (fun W hW => ?_) hS ?_
      · obtain ⟨⟨x0, x1⟩, f0, f1, f3⟩ := FACT.out W hW
        clear hW
        go_simp
      simp only [Act.put, List.setIfInBounds_toArray, List.set_cons_zero, List.set_cons_succ]
      refine take_till (i := 26) (some 104) (.int .i64 C) rfl rfl (by kernel_rfl) (by kernel_rfl) (by kernel_rfl) (by kernel_rfl) (by decide) (fun _ _ _ h => h) (by rfl) (fun W hW => ?_) hS ?_
      · obtain ⟨⟨x0, x1⟩, f0, f1, f3⟩ := FACT.out W hW
        clear hW
        go_simp
      simp only [Act.put, List.setIfInBounds_toArray, List.set_cons_zero, List.set_cons_succ]
      refine take_till (i := 27) (some 105) (.pointer (some ⟨w.heap.size, 1, none⟩)) rfl rfl (by kernel_rfl) (by kernel_rfl) (by kernel_rfl) (by kernel_rfl) (by decide) (fun _ _ _ h => h) (by rfl) (fun W hW => ?_) hS ?_
      · obtain ⟨⟨x0, x1⟩, f0, f1, f3⟩ := FACT.out W hW
        clear hW
        go_simp
      simp only [Act.put, List.setIfInBounds_toArray, List.set_cons_zero, List.set_cons_succ]
      refine take_till (i := 28) (some 106) (.slice (some ⟨ge, oe, none⟩) k ec) rfl rfl (by kernel_rfl) (by kernel_rfl) (by kernel_rfl) (by kernel_rfl) (by decide) (fun _ _ _ h => h) (by rfl) (fun W hW => ?_) hS ?_
      · obtain ⟨⟨x0, x1⟩, f0, f1, f3⟩ := FACT.out W hW
        clear hW
        go_simp
      simp only [Act.put, List.setIfInBounds_toArray, List.set_cons_zero, List.set_cons_succ]
      refine take_till (i := 29) (some 107) (.int .i64 (kk : Int)) rfl rfl (by kernel_rfl) (by kernel_rfl) (by kernel_rfl) (by kernel_rfl) (by decide) (fun _ _ _ h => h) (by rfl) (fun W hW => ?_) hS ?_
      · obtain ⟨⟨x0, x1⟩, f0, f1, f3⟩ := FACT.out W hW
        clear hW
        go_simp
      simp only [Act.put, List.setIfInBounds_toArray, List.set_cons_zero, List.set_cons_succ]
      refine take_till (i := 30) (some 108) (.pointer (some ⟨ge, oe + kk * 4, none⟩)) rfl rfl (by kernel_rfl) (by kernel_rfl) (by kernel_rfl) (by kernel_rfl) (by decide) (fun _ _ _ h => h) (by rfl) (fun W hW => ?_) hS ?_
      · obtain ⟨⟨x0, x1⟩, f0, f1, f3⟩ := FACT.out W hW
        clear hW
        go_simp
      simp only [Act.put, List.setIfInBounds_toArray, List.set_cons_zero, List.set_cons_succ]
      refine take_till (i := 31) (some 109) (.pointer (some ⟨ge, oe + kk * 4 + 3, none⟩)) rfl rfl (by kernel_rfl) (by kernel_rfl) (by kernel_rfl) (by kernel_rfl) (by decide) (fun _ _ _ h => h) (by rfl) (fun W hW => ?_) hS ?_
      · obtain ⟨⟨x0, x1⟩, f0, f1, f3⟩ := FACT.out W hW
        clear hW
        go_simp
      simp only [Act.put, List.setIfInBounds_toArray, List.set_cons_zero, List.set_cons_succ]
      refine take_till (i := 32) (some 110) (.int .i64 E.cost) rfl rfl (by kernel_rfl) (by kernel_rfl) (by kernel_rfl) (by kernel_rfl) (by decide) (fun _ _ _ h => h) (by rfl) (fun W hW => ?_) hS ?_
      · obtain ⟨⟨x0, x1⟩, f0, f1, f3⟩ := FACT.out W hW
        clear hW
        go_simp
      simp only [Act.put, List.setIfInBounds_toArray, List.set_cons_zero, List.set_cons_succ]
      refine take_till (i := 33) (some 111) (.int .i64 (C + E.cost)) rfl rfl (by kernel_rfl) (by kernel_rfl) (by kernel_rfl) (by kernel_rfl) (by decide) (fun _ _ _ h => h) (by rfl) (fun W hW => ?_) hS ?_
      · obtain ⟨⟨x0, x1⟩, f0, f1, f3⟩ := FACT.out W hW
        clear hW
        go_simp
      simp only [Act.put, List.setIfInBounds_toArray, List.set_cons_zero, List.set_cons_succ]
      refine next_till 25 (by kernel_rfl) rfl (fun K hK => ?_)
      go_simp
      refine ((HP.out _ hS).2.2).mono ?_
      rintro e4 z25 ⟨rfl, bl⟩
      have hT := hS.go bl
      clear bl hS
      have hS := hT
      clear hT
      go_simp
      refine hK.out _ _ (fun _ => hS) ?_
      clear hK K
      refine next_till 34 (by kernel_rfl) rfl (fun K hK => ?_)
      go_simp
      refine hK.out _ _ (fun _ => hS) ?_
      clear hK K
      refine next_till 35 (by kernel_rfl) rfl (fun K hK => ?_)
      go_simp
      refine hK.out _ _ (fun _ => hS) ?_
      clear hK K
      refine next_till 36 (by kernel_rfl) rfl (fun K hK => ?_)
      go_simp
      refine hK.out _ _ (fun _ => hS) ?_
      clear hK K
      refine next_till 37 (by kernel_rfl) rfl (fun K hK => ?_)
      go_simp
      refine (works_any _).mono ?_
      rintro e4 z37 ⟨rfl, bl⟩
      have hT := hS.go bl
      clear bl hS
      have hS := hT
      clear hT
      go_simp
      refine hK.out _ _ (fun _ => hS) ?_
      clear hK K
      refine next_till 38 (by kernel_rfl) rfl (fun K hK => ?_)
      go_simp
      refine hK.out _ _ (fun _ => hS) ?_
      clear hK K
      refine next_till 39 (by kernel_rfl) rfl (fun K hK => ?_)
      go_simp
      refine hK.out _ _ (fun _ => hS) ?_
      clear hK K
      refine done_till (by kernel_rfl) ?_ _
      have HZ := Lib.hid hS.under
      clear hS HP FACT
      go_wp2
      go_ret
      exact ⟨rfl, HZ.out⟩
end Go.Proofs.Ytmdjgkclbjbdiaa
