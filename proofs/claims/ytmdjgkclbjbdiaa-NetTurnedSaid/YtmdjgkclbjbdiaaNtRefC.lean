/- The document's Flows, a net's copy, the same net; no condition. -/
import Derived.Test.YtmdjgkclbjbdiaaNtRefO
namespace Go.Proofs.Ytmdjgkclbjbdiaa
open Go.RowKit

set_option maxRecDepth 100000 in
set_option maxHeartbeats 4000000 in
theorem rflows_any (n : Int) (es : List Ed) (fl : List Int) (w : World) {v x : Value} (he : Es w v es) (hf : Fs w x fl) :
    Calls Try.prog 18 #[netV n v, x] w fun e w' => e = .returned (.bool (decide (FlowsP n es fl))) ∧ Below w.heap.size w w' := by
  obtain ⟨va, vc, rfl, -, -⟩ := he.shape
  obtain ⟨xa, xc, rfl, -, -⟩ := hf.shape
  obtain ⟨b, hbv⟩ : ∃ b, b = decide (FlowsP n es fl) := ⟨_, rfl⟩
  have hF : ¬ FlowsP n es fl → b = false := fun h => by rw [hbv]; exact decide_eq_false h
  have hT : FlowsP n es fl → b = true := fun h => by rw [hbv]; exact decide_eq_true h
  rw [← hbv]
  clear hbv
  have hb0 : Below w.heap.size w (w.alloc (.cells #[.int .i64 n, .slice va es.length vc] 24)) := (Below.refl _ _).alloc (Nat.le_refl _) _
  have cN := Cel.new w #[.int .i64 n, .slice va es.length vc] 24
  have PW := rwithin_any n es fl _ (he.below hb0) (hf.below hb0)
  obtain ⟨m0, m1⟩ := cN.net
  have H0 := Lib.hid (And.intro hb0 (And.intro cN (And.intro PW (And.intro he (And.intro hf (And.intro hF hT))))))
  clear he hf hb0 cN PW hF hT
  go_enter Try.func18, Try.ntmps18
  go_wp2_with fail
  generalize w.alloc (.cells #[.int .i64 n, .slice va es.length vc] 24) = wn at *
  refine H0.out.2.2.1.mono ?_
  rintro e1 w1 ⟨rfl, b1⟩
  obtain ⟨hb0, cN, -, he, hf, hF, hT⟩ := H0.out
  have hb1 := hb0.trans (b1.mono hb0.size)
  have cN1 := cN.below b1 cN.lt
  clear H0 cN hb0 b1 m0 m1
  by_cases hw : WithinP n es fl
  case neg =>
    rw [decide_eq_false hw]
    obtain rfl := hF (fun h => hw h.1)
    have HW := Lib.hid (And.intro hb1 hw)
    clear hw hb1 he hf cN1 hF hT
    go_wp2
    go_ret
    exact ⟨rfl, HW.out.1⟩
  rw [decide_eq_true hw]
  have PO := rover_any n es fl w1 (he.below hb1) (hf.below hb1)
  obtain ⟨n0, n1⟩ := cN1.net
  have H1 := Lib.hid (And.intro hw (And.intro hb1 (And.intro hF hT)))
  clear hw hb1 he hf cN1 hF hT
  go_wp2_with fail
  refine PO.mono ?_
  rintro e2 w2 ⟨r, rfl, hr, b2⟩
  obtain ⟨hw, hb1, hF, hT⟩ := H1.out
  obtain ⟨Z, hZ⟩ : ∃ Z, Z = overP n es fl := ⟨_, rfl⟩
  have hZ2 : Z = overL n (es.zip fl) := by rw [hZ]; unfold overP; rw [if_pos hw]
  rw [← hZ] at hr
  obtain ⟨ra, rc, rfl, -, -⟩ := hr.shape
  obtain ⟨m, hm⟩ : ∃ m, m = Z.length := ⟨_, rfl⟩
  have hml := hr.len
  rw [← hm] at hr hml ⊢
  have H2 := Lib.hid (And.intro (hb1.trans (b2.mono hb1.size)) (And.intro hr (And.intro hm (And.intro (show b = false ∨ True from .inr trivial) (And.intro (show (¬ ∀ x ∈ Z, x = 0) → b = false from fun h => hF (fun h' => h (by rw [hZ2]; exact h'.2))) (show (∀ x ∈ Z, x = 0) → b = true from fun h => hT ⟨hw, by rw [← hZ2]; exact h⟩))))))
  clear hw hb1 hF hT hZ hZ2 hr hm H1 PO b2 n0 n1
  go_wp2
  go_loopw [6] (fun j wr => ∃ k : Nat, j = .int .i64 (k : Int) ∧ k ≤ m ∧ NoneTo Z k ∧ wr = w2) (fun j _ => m - (intOf j).toNat)
  case atStart => exact ⟨0, rfl, Nat.zero_le _, NoneTo.zero _, rfl⟩
  case round =>
    obtain ⟨k, rfl, hk, hn, rfl⟩ := hrel
    rcases Nat.lt_or_ge k m with hlt | hge
    · obtain ⟨y, hy⟩ : ∃ y, Z[k]? = some y := ⟨_, List.getElem?_eq_getElem (by have := H2.out.2.2.1; omega)⟩
      obtain ⟨g, o, cap, e0, hg, f0⟩ := fs_at H2.out.2.1 hy
      simp only [Value.slice.injEq] at e0
      obtain ⟨rfl, -, rfl⟩ := e0
      have hki : (k : Int) < (m : Int) := by omega
      have hk1 : (k : Int) ≤ 9223372036854775806 := by omega
      have hk0 : (0 : Int) ≤ (k : Int) := by omega
      by_cases hy0 : y = 0
      · subst hy0
        have HK := Lib.hid (And.intro hlt (hn.more hy))
        clear hlt hk hn hy hg
        go_wp2
        go_roundw
        case rel => exact ⟨k + 1, by go_num, HK.out.1, HK.out.2, trivial⟩
        case measure =>
          have := HK.out.1
          simp only [intOf]
          omega
      · obtain rfl := H2.out.2.2.2.2.1 (fun h => hy0 (h y (List.mem_of_getElem? hy)))
        have hq : (y != 0) = true := by simpa using hy0
        have HK := Lib.hid hy0
        clear hlt hk hn hy hg hy0
        go_wp2
        go_ret
        exact ⟨rfl, H2.out.1⟩
    · obtain rfl : k = m := by omega
      have hz : ∀ x ∈ Z, x = 0 := by
        unfold NoneTo at hn
        rw [H2.out.2.2.1, List.take_length] at hn
        exact hn
      obtain rfl := H2.out.2.2.2.2.2 hz
      have hki : ¬ (k : Int) < (k : Int) := by omega
      clear hz hn hk hge
      go_wp2
      go_ret
      exact ⟨rfl, H2.out.1⟩

set_option maxRecDepth 100000 in
set_option maxHeartbeats 4000000 in
theorem samenet_any (n : Int) (es : List Ed) (w : World) {v x : Value} (he : Es w v es) (hf : Es w x es) :
    Calls Try.prog 24 #[netV n v, netV n x] w fun e w' => e = .returned (.bool true) ∧ Below w.heap.size w w' := by
  obtain ⟨va, vc, rfl, -, -⟩ := he.shape
  obtain ⟨xa, xc, rfl, -, -⟩ := hf.shape
  have hlm := he.len
  obtain ⟨L, hL⟩ : ∃ L, L = es.length := ⟨_, rfl⟩
  rw [← hL] at he hf hlm ⊢
  have hb : Below w.heap.size w ((w.alloc (.cells #[.int .i64 n, .slice va L vc] 24)).alloc (.cells #[.int .i64 n, .slice xa L xc] 24)) := ((Below.refl _ _).alloc (Nat.le_refl _) _).alloc (by simp) _
  have c1 := (Cel.new w #[.int .i64 n, .slice va L vc] 24).alloc (.cells #[.int .i64 n, .slice xa L xc] 24)
  have c2 : Cel ((w.alloc (.cells #[.int .i64 n, .slice va L vc] 24)).alloc (.cells #[.int .i64 n, .slice xa L xc] 24)) (w.alloc (.cells #[.int .i64 n, .slice va L vc] 24)).heap.size [.int .i64 n, .slice xa L xc] 24 := Cel.new _ _ _
  rw [World.size_alloc] at c2
  have H0 := Lib.hid (And.intro he (And.intro hf (And.intro hL (And.intro hb (And.intro c1 c2)))))
  clear he hf hL hb c1 c2
  go_enter Try.func24, Try.ntmps24
  go_wp2
  generalize (w.alloc (.cells #[.int .i64 n, .slice va L vc] 24)).alloc (.cells #[.int .i64 n, .slice xa L xc] 24) = w1 at *
  go_loopw [5] (fun j wr => ∃ k : Nat, j = .int .i64 (k : Int) ∧ k ≤ L ∧ Below w1.heap.size w1 wr) (fun j _ => L - (intOf j).toNat)
  case atStart => exact ⟨0, rfl, Nat.zero_le _, Below.refl _ _⟩
  case round =>
    obtain ⟨k, rfl, hk, hb⟩ := hrel
    obtain ⟨he, hf, hL, hb1, c1, c2⟩ := H0.out
    obtain ⟨n0, n1⟩ := (c1.below hb c1.lt).net
    obtain ⟨m0, m1⟩ := (c2.below hb c2.lt).net
    have hbw := hb1.trans (hb.mono hb1.size)
    rcases Nat.lt_or_ge k L with hlt | hge
    · obtain ⟨e, hek⟩ : ∃ e, es[k]? = some e := ⟨_, List.getElem?_eq_getElem (by omega)⟩
      obtain ⟨g, o, cap, e0, hg, f0, f1, f2, f3⟩ := es_at (he.below hbw) hek
      obtain ⟨g2, o2, cap2, e2, hg2, q0, q1, q2, q3⟩ := es_at (hf.below hbw) hek
      simp only [Value.slice.injEq] at e0 e2
      obtain ⟨rfl, -, rfl⟩ := e0
      obtain ⟨rfl, -, rfl⟩ := e2
      have hki : (k : Int) < (L : Int) := by omega
      have hk1 : (k : Int) ≤ 9223372036854775806 := by omega
      have hk0 : (0 : Int) ≤ (k : Int) := by omega
      have HK := Lib.hid (And.intro hlt hb)
      clear he hf hL hb1 c1 c2 hbw hlt hb hek hg hg2 hk
      go_wp2
      go_quiet (fail)
      go_wp2
      go_roundw
      case rel => exact ⟨k + 1, by go_num, HK.out.1, below_drewN HK.out.2 _⟩
      case measure =>
        have := HK.out.1
        simp only [intOf]
        omega
    · obtain rfl : k = L := by omega
      have hki : ¬ (k : Int) < (k : Int) := by omega
      have HB := Lib.hid hbw
      clear he hf hL hb1 c1 c2 hbw hb hge hk
      go_wp2
      go_ret
      exact ⟨rfl, HB.out⟩

theorem edge_rows : RowTy Try.prog kdEd 22 39 := RowTy.of (z := .agg #[.int .i64 0, .int .i64 0, .int .i64 0, .int .i64 0]) (by' := 32) Try.underlying22 (by kernel_rfl) rfl (by decide)

theorem es_apart {w w' : World} {T : Nat → Prop} {v : Value} {es : List Ed} (h : Es w v es) (ho : Only T w w') (hv : ∀ q, v.ownBlock = some q → ¬ T q) : Es w' v es := by
  obtain ⟨ts, h1, h2, _, _⟩ := h
  exact ⟨ts, h1, h2.only ho (fun _ q hq => hv q hq), fun _ _ => trivial, fun _ _ _ h => h⟩

set_option maxRecDepth 100000 in
set_option maxHeartbeats 4000000 in
theorem copy_any (n : Int) (es : List Ed) (w : World) {v : Value} (he : Es w v es) (hn : es.length ≤ 2000) :
    Calls Try.prog 11 #[netV n v] w fun e w' => ∃ x, e = .returned (netV n x) ∧ Es w' x es ∧ Below w.heap.size w w' := by
  obtain ⟨va, vc, rfl, -, -⟩ := he.shape
  obtain ⟨L, hL⟩ : ∃ L, L = es.length := ⟨_, rfl⟩
  rw [← hL] at he hn ⊢
  have hb : Below w.heap.size w ((w.alloc (.cells #[.int .i64 n, .slice va L vc] 24)).alloc (.cells #[.int .i64 0, .slice none 0 0] 24)) := ((Below.refl _ _).alloc (Nat.le_refl _) _).alloc (by simp) _
  have c1 := (Cel.new w #[.int .i64 n, .slice va L vc] 24).alloc (.cells #[.int .i64 0, .slice none 0 0] 24)
  have c2 : Cel ((w.alloc (.cells #[.int .i64 n, .slice va L vc] 24)).alloc (.cells #[.int .i64 0, .slice none 0 0] 24)) (w.alloc (.cells #[.int .i64 n, .slice va L vc] 24)).heap.size [.int .i64 0, .slice none 0 0] 24 := Cel.new _ _ _
  rw [World.size_alloc] at c2
  have hz : ((w.alloc (.cells #[.int .i64 n, .slice va L vc] 24)).alloc (.cells #[.int .i64 0, .slice none 0 0] 24)).heap.size = w.heap.size + 2 := by simp
  have H0 := Lib.hid (And.intro he (And.intro hn (And.intro hL (And.intro hb (And.intro c1 (And.intro c2 hz))))))
  clear he hn hL hb c1 c2 hz
  go_enter Try.func11, Try.ntmps11
  go_wp2
  generalize (w.alloc (.cells #[.int .i64 n, .slice va L vc] 24)).alloc (.cells #[.int .i64 0, .slice none 0 0] 24) = w1 at *
  have HX := Lib.hid (fun (W : World) (hW : Only (fun q => q = w.heap.size + 1) w1 W) => (H0.out.2.2.2.2.1.only hW (by omega)).net)
  refine region_till 99 (fun W => Only (fun q => q = w.heap.size + 1) w1 W) (by kernel_rfl) (Only.refl _ _).drew (fun hS => ?_)
  skip
  refine take_till (i := 0) (some 3) (.pointer (some ⟨w.heap.size, 0, none⟩)) rfl rfl (by kernel_rfl) (by kernel_rfl) (by kernel_rfl) (by kernel_rfl) (by decide) (fun _ _ _ h => h) (by rfl) (fun W hW => ?_) hS ?_
  · obtain ⟨x0, x1⟩ := HX.out W hW
    clear hW
    go_simp
  simp only [Act.put, List.setIfInBounds_toArray, List.set_cons_zero, List.set_cons_succ]
  refine take_till (i := 1) (some 4) (.int .i64 n) rfl rfl (by kernel_rfl) (by kernel_rfl) (by kernel_rfl) (by kernel_rfl) (by decide) (fun _ _ _ h => h) (by rfl) (fun W hW => ?_) hS ?_
  · obtain ⟨x0, x1⟩ := HX.out W hW
    clear hW
    go_simp
  simp only [Act.put, List.setIfInBounds_toArray, List.set_cons_zero, List.set_cons_succ]
  refine take_till (i := 3) (some 6) (.pointer (some ⟨w.heap.size, 1, none⟩)) rfl rfl (by kernel_rfl) (by kernel_rfl) (by kernel_rfl) (by kernel_rfl) (by decide) (fun _ _ _ h => h) (by rfl) (fun W hW => ?_) hS ?_
  · obtain ⟨x0, x1⟩ := HX.out W hW
    clear hW
    go_simp
  simp only [Act.put, List.setIfInBounds_toArray, List.set_cons_zero, List.set_cons_succ]
  refine take_till (i := 4) (some 7) (.slice va L vc) rfl rfl (by kernel_rfl) (by kernel_rfl) (by kernel_rfl) (by kernel_rfl) (by decide) (fun _ _ _ h => h) (by rfl) (fun W hW => ?_) hS ?_
  · obtain ⟨x0, x1⟩ := HX.out W hW
    clear hW
    go_simp
  simp only [Act.put, List.setIfInBounds_toArray, List.set_cons_zero, List.set_cons_succ]
  have hwd : w1.drew.heap.size = w1.heap.size := rfl
  have hcd : Cel w1.drew (w.heap.size + 1) [.int .i64 0, .slice none 0 0] 24 := H0.out.2.2.2.2.2.1.kept rfl
  have HBd := Lib.hid (show Below w.heap.size w w1.drew from H0.out.2.2.2.1.drew)
  generalize w1.drew = wd at *
  have hxe : Rd kdEd (wd.alloc (.cells #[] 39)) (fun q => wd.heap.size ≤ q) (.slice va L vc) es := H0.out.1.wide (HBd.out.trans (((Below.refl _ _).alloc (Nat.le_refl _) _).mono HBd.out.size)) (fun q hq => Nat.le_trans HBd.out.size hq)
  have ho : Ro kdEd 39 (wd.alloc (.cells #[] 39)) (fun q => wd.heap.size ≤ q) (.slice (some ⟨wd.heap.size, 0, none⟩) 0 0) [] :=
    ⟨[], rfl, ⟨rfl, .inr ⟨wd.heap.size, 0, #[], rfl, Nat.zero_le _, by have := World.alloc_heap_new wd (.cells #[] 39); exact this, Nat.le_refl _, Nat.zero_le _, rfl, rfl⟩⟩, (fun _ h => by cases h), fun q hq => by cases hq; exact Nat.le_refl _⟩
  obtain ⟨v', w', hr, o', hst, hg, hloc⟩ := run_append_ro edge_rows 22 ho hxe (by have := H0.out.2.1; have := H0.out.2.2.1; simp; omega)
  simp only [List.nil_append] at o'
  have hvl : ∀ q, v'.ownBlock = some q → wd.heap.size ≤ q := fun q hq => by
    rcases hloc with h | h
    · rw [h] at hq; cases hq; exact Nat.le_refl _
    · rw [h] at hq; simp only [World.size_alloc, Option.some.injEq] at hq; omega
  have hes : Es w' v' es := o'.rd (fun _ h => h.elim) (fun _ _ h => h)
  have hlt2 : w.heap.size + 1 < wd.heap.size := hcd.lt
  have hS2 : Only (fun q => q = w.heap.size + 1) w1 w' := (hS.alloc _).grown hg (fun k e => by cases e; right; rw [← hwd]; exact Nat.le_refl _)
  have hc2 : Cel w' (w.heap.size + 1) [.int .i64 0, .slice none 0 0] 24 := (hcd.alloc _).kept (hg.block _ (by simp; omega) (fun e => by have h : w.heap.size + 1 = wd.heap.size := Option.some.inj e; omega))
  have hb2 : Below w.heap.size w w' := (HBd.out.alloc HBd.out.size _).grown hg (by have := HBd.out.size; simp; omega) (fun k e => by cases e; exact HBd.out.size)
  obtain ⟨pa, pc, rfl, -, -⟩ := hes.shape
  rw [← H0.out.2.2.1] at hr hes hvl
  obtain ⟨y0, y1⟩ := hc2.net
  have z0 := hc2.frozen 0
  have z1 := hc2.frozen 1
  have HV := Lib.hid (fun q hq => (show q ≠ w.heap.size + 1 by have := hvl q hq; omega))
  have HF := Lib.hid (And.intro hes (And.intro hS2 (And.intro hc2 (And.intro hb2 (And.intro hS hwd)))))
  clear hxe ho o' hst hg hloc hvl hes hS2 hc2 hb2 hcd HBd hlt2 hS hwd
  refine next_till 2 (by kernel_rfl) rfl (fun K hK => ?_)
  go_simp
  refine hK.out _ _ (fun _ => HF.out.2.2.2.2.1.alloc _) ?_
  clear hK K
  refine next_till 5 (by kernel_rfl) rfl (fun K hK => ?_)
  refine wp_append_run (.tmp 5) (.tmp 7) _ rfl rfl rfl hr ?_
  refine hK.out _ _ (fun _ => HF.out.2.1) ?_
  simp only [Act.put, List.setIfInBounds_toArray]
  clear hK K hr
  refine next_till 6 (by kernel_rfl) rfl (fun K hK => ?_)
  go_simp
  refine hK.out _ _ (fun _ => HF.out.2.1) ?_
  clear hK K
  refine next_till 7 (by kernel_rfl) rfl (fun K hK => ?_)
  go_simp
  refine hK.out _ _ (fun _ => (HF.out.2.1.setCell (p := ⟨w.heap.size + 1, 0, none⟩) (.inl rfl) _).setCell (p := ⟨w.heap.size + 1, 1, none⟩) (.inl rfl) _) ?_
  clear hK K y0 y1 z0 z1
  refine done_till (by kernel_rfl) ?_ _
  go_wp2
  refine bodyPost_ret (jresults_cell rfl rfl (load_net ((HF.out.2.2.1.set 0 _).set 1 _))) rfl ?_
  refine ⟨_, rfl, ?_, (HF.out.2.2.2.1.setCell (by simp) _).setCell (by simp) _⟩
  exact es_apart HF.out.1 (((Only.refl (fun q => q = w.heap.size + 1) w').setCell (p := ⟨w.heap.size + 1, 0, none⟩) (.inl rfl) _).setCell (p := ⟨w.heap.size + 1, 1, none⟩) (.inl rfl) _) HV.out
end Go.Proofs.Ytmdjgkclbjbdiaa
