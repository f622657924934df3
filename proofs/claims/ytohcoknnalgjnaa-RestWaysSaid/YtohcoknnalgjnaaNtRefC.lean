/- The document's Flows, a net's copy, the same net; no condition. -/
import Derived.Test.YtohcoknnalgjnaaNtRefO
namespace Go.Proofs.Ytohcoknnalgjnaa
open Go.RowKit

set_option maxRecDepth 100000 in
set_option maxHeartbeats 4000000 in
theorem samenet_any (n : Int) (es : List Ed) (w : World) {v x : Value} (he : Es w v es) (hf : Es w x es) :
    Calls Try.prog 20 #[netV n v, netV n x] w fun e w' => e = .returned (.bool true) ∧ Below w.heap.size w w' := by
  obtain ⟨va, vc, rfl, -, -⟩ := he.shape
  obtain ⟨xa, xc, rfl, -, -⟩ := hf.shape
  have hlm := he.len
  obtain ⟨L, hL⟩ : ∃ L, L = es.length := ⟨_, rfl⟩
  rw [← hL] at he hf hlm ⊢
  have hb : Below w.heap.size w ((w.alloc (.cells #[.int .i64 n, .slice va L vc] 24)).alloc (.cells #[.int .i64 n, .slice xa L xc] 24)) := ((Below.refl _ _).alloc (Nat.le_refl _) _).alloc (by simp) _
  have c1 := (Cel.new w #[.int .i64 n, .slice va L vc] 24).alloc (.cells #[.int .i64 n, .slice xa L xc] 24)
  have c2 : Cel ((w.alloc (.cells #[.int .i64 n, .slice va L vc] 24)).alloc (.cells #[.int .i64 n, .slice xa L xc] 24)) (w.alloc (.cells #[.int .i64 n, .slice va L vc] 24)).heap.size [.int .i64 n, .slice xa L xc] 24 := Cel.new _ _ _
  rw [World.size_alloc] at c2
  have H0 := Lib.hid (And.intro he (And.intro hf (And.intro hL (And.intro hb (And.intro c1 c2)))))
  clear he hf hL hb c1 c2
  go_enter Try.func20, Try.ntmps20
  go_wp2
  generalize (w.alloc (.cells #[.int .i64 n, .slice va L vc] 24)).alloc (.cells #[.int .i64 n, .slice xa L xc] 24) = w1 at *
  go_loopw [5] (fun j wr => ∃ k : Nat, j = .int .i64 (k : Int) ∧ k ≤ L ∧ Below w1.heap.size w1 wr) (fun j _ => L - (intOf j).toNat)
  case atStart => exact ⟨0, rfl, Nat.zero_le _, Below.refl _ _⟩
  case round =>
    obtain ⟨k, rfl, hk, hb⟩ := hrel
    obtain ⟨he, hf, hL, hb1, c1, c2⟩ := H0.out
    obtain ⟨n0, n1⟩ := (c1.below hb c1.lt).net
    obtain ⟨m0, m1⟩ := (c2.below hb c2.lt).net
    have hbw := hb1.trans (hb.mono hb1.size)
    rcases Nat.lt_or_ge k L with hlt | hge
    · obtain ⟨e, hek⟩ : ∃ e, es[k]? = some e := ⟨_, List.getElem?_eq_getElem (by omega)⟩
      obtain ⟨g, o, cap, e0, hg, f0, f1, f2, f3⟩ := es_at (he.below hbw) hek
      obtain ⟨g2, o2, cap2, e2, hg2, q0, q1, q2, q3⟩ := es_at (hf.below hbw) hek
      simp only [Value.slice.injEq] at e0 e2
      obtain ⟨rfl, -, rfl⟩ := e0
      obtain ⟨rfl, -, rfl⟩ := e2
      have hki : (k : Int) < (L : Int) := by omega
      have hk1 : (k : Int) ≤ 9223372036854775806 := by omega
      have hk0 : (0 : Int) ≤ (k : Int) := by omega
      have HK := Lib.hid (And.intro hlt hb)
      clear he hf hL hb1 c1 c2 hbw hlt hb hek hg hg2 hk
      go_wp2
      go_quiet (fail)
      go_wp2
      go_roundw
      case rel => exact ⟨k + 1, by go_num, HK.out.1, below_drewN HK.out.2 _⟩
      case measure =>
        have := HK.out.1
        simp only [intOf]
        omega
    · obtain rfl : k = L := by omega
      have hki : ¬ (k : Int) < (k : Int) := by omega
      have HB := Lib.hid hbw
      clear he hf hL hb1 c1 c2 hbw hb hge hk
      go_wp2
      go_ret
      exact ⟨rfl, HB.out⟩

theorem edge_rows : RowTy Try.prog kdEd 22 44 := RowTy.of (z := .agg #[.int .i64 0, .int .i64 0, .int .i64 0, .int .i64 0]) (by' := 32) Try.underlying22 (by kernel_rfl) rfl (by decide)

theorem es_apart {w w' : World} {T : Nat → Prop} {v : Value} {es : List Ed} (h : Es w v es) (ho : Only T w w') (hv : ∀ q, v.ownBlock = some q → ¬ T q) : Es w' v es := by
  obtain ⟨ts, h1, h2, _, _⟩ := h
  exact ⟨ts, h1, h2.only ho (fun _ q hq => hv q hq), fun _ _ => trivial, fun _ _ _ h => h⟩

set_option maxRecDepth 100000 in
set_option maxHeartbeats 4000000 in
theorem copy_any (n : Int) (es : List Ed) (w : World) {v : Value} (he : Es w v es) (hn : es.length ≤ 2000) :
    Calls Try.prog 11 #[netV n v] w fun e w' => ∃ x, e = .returned (netV n x) ∧ Es w' x es ∧ Below w.heap.size w w' := by
  obtain ⟨va, vc, rfl, -, -⟩ := he.shape
  obtain ⟨L, hL⟩ : ∃ L, L = es.length := ⟨_, rfl⟩
  rw [← hL] at he hn ⊢
  have hb : Below w.heap.size w ((w.alloc (.cells #[.int .i64 n, .slice va L vc] 24)).alloc (.cells #[.int .i64 0, .slice none 0 0] 24)) := ((Below.refl _ _).alloc (Nat.le_refl _) _).alloc (by simp) _
  have c1 := (Cel.new w #[.int .i64 n, .slice va L vc] 24).alloc (.cells #[.int .i64 0, .slice none 0 0] 24)
  have c2 : Cel ((w.alloc (.cells #[.int .i64 n, .slice va L vc] 24)).alloc (.cells #[.int .i64 0, .slice none 0 0] 24)) (w.alloc (.cells #[.int .i64 n, .slice va L vc] 24)).heap.size [.int .i64 0, .slice none 0 0] 24 := Cel.new _ _ _
  rw [World.size_alloc] at c2
  have hz : ((w.alloc (.cells #[.int .i64 n, .slice va L vc] 24)).alloc (.cells #[.int .i64 0, .slice none 0 0] 24)).heap.size = w.heap.size + 2 := by simp
  have H0 := Lib.hid (And.intro he (And.intro hn (And.intro hL (And.intro hb (And.intro c1 (And.intro c2 hz))))))
  clear he hn hL hb c1 c2 hz
  go_enter Try.func11, Try.ntmps11
  go_wp2
  generalize (w.alloc (.cells #[.int .i64 n, .slice va L vc] 24)).alloc (.cells #[.int .i64 0, .slice none 0 0] 24) = w1 at *
  have HX := Lib.hid (fun (W : World) (hW : Only (fun q => q = w.heap.size + 1) w1 W) => (H0.out.2.2.2.2.1.only hW (by omega)).net)
  refine region_till 99 (fun W => Only (fun q => q = w.heap.size + 1) w1 W) (by kernel_rfl) (Only.refl _ _).drew (fun hS => ?_)
  skip
  refine take_till (i := 0) (some 3) (.pointer (some ⟨w.heap.size, 0, none⟩)) rfl rfl (by kernel_rfl) (by kernel_rfl) (by kernel_rfl) (by kernel_rfl) (by decide) (fun _ _ _ h => h) (by rfl) (fun W hW => ?_) hS ?_
  · obtain ⟨x0, x1⟩ := HX.out W hW
    clear hW
    go_simp
  simp only [Act.put, List.setIfInBounds_toArray, List.set_cons_zero, List.set_cons_succ]
  refine take_till (i := 1) (some 4) (.int .i64 n) rfl rfl (by kernel_rfl) (by kernel_rfl) (by kernel_rfl) (by kernel_rfl) (by decide) (fun _ _ _ h => h) (by rfl) (fun W hW => ?_) hS ?_
  · obtain ⟨x0, x1⟩ := HX.out W hW
    clear hW
    go_simp
  simp only [Act.put, List.setIfInBounds_toArray, List.set_cons_zero, List.set_cons_succ]
  refine take_till (i := 3) (some 6) (.pointer (some ⟨w.heap.size, 1, none⟩)) rfl rfl (by kernel_rfl) (by kernel_rfl) (by kernel_rfl) (by kernel_rfl) (by decide) (fun _ _ _ h => h) (by rfl) (fun W hW => ?_) hS ?_
  · obtain ⟨x0, x1⟩ := HX.out W hW
    clear hW
    go_simp
  simp only [Act.put, List.setIfInBounds_toArray, List.set_cons_zero, List.set_cons_succ]
  refine take_till (i := 4) (some 7) (.slice va L vc) rfl rfl (by kernel_rfl) (by kernel_rfl) (by kernel_rfl) (by kernel_rfl) (by decide) (fun _ _ _ h => h) (by rfl) (fun W hW => ?_) hS ?_
  · obtain ⟨x0, x1⟩ := HX.out W hW
    clear hW
    go_simp
  simp only [Act.put, List.setIfInBounds_toArray, List.set_cons_zero, List.set_cons_succ]
  have hwd : w1.drew.heap.size = w1.heap.size := rfl
  have hcd : Cel w1.drew (w.heap.size + 1) [.int .i64 0, .slice none 0 0] 24 := H0.out.2.2.2.2.2.1.kept rfl
  have HBd := Lib.hid (show Below w.heap.size w w1.drew from H0.out.2.2.2.1.drew)
  generalize w1.drew = wd at *
  have hxe : Rd kdEd (wd.alloc (.cells #[] 44)) (fun q => wd.heap.size ≤ q) (.slice va L vc) es := H0.out.1.wide (HBd.out.trans (((Below.refl _ _).alloc (Nat.le_refl _) _).mono HBd.out.size)) (fun q hq => Nat.le_trans HBd.out.size hq)
  have ho : Ro kdEd 44 (wd.alloc (.cells #[] 44)) (fun q => wd.heap.size ≤ q) (.slice (some ⟨wd.heap.size, 0, none⟩) 0 0) [] :=
    ⟨[], rfl, ⟨rfl, .inr ⟨wd.heap.size, 0, #[], rfl, Nat.zero_le _, by have := World.alloc_heap_new wd (.cells #[] 44); exact this, Nat.le_refl _, Nat.zero_le _, rfl, rfl⟩⟩, (fun _ h => by cases h), fun q hq => by cases hq; exact Nat.le_refl _⟩
  obtain ⟨v', w', hr, o', hst, hg, hloc⟩ := run_append_ro edge_rows 22 ho hxe (by have := H0.out.2.1; have := H0.out.2.2.1; simp; omega)
  simp only [List.nil_append] at o'
  have hvl : ∀ q, v'.ownBlock = some q → wd.heap.size ≤ q := fun q hq => by
    rcases hloc with h | h
    · rw [h] at hq; cases hq; exact Nat.le_refl _
    · rw [h] at hq; simp only [World.size_alloc, Option.some.injEq] at hq; omega
  have hes : Es w' v' es := o'.rd (fun _ h => h.elim) (fun _ _ h => h)
  have hlt2 : w.heap.size + 1 < wd.heap.size := hcd.lt
  have hS2 : Only (fun q => q = w.heap.size + 1) w1 w' := (hS.alloc _).grown hg (fun k e => by cases e; right; rw [← hwd]; exact Nat.le_refl _)
  have hc2 : Cel w' (w.heap.size + 1) [.int .i64 0, .slice none 0 0] 24 := (hcd.alloc _).kept (hg.block _ (by simp; omega) (fun e => by have h : w.heap.size + 1 = wd.heap.size := Option.some.inj e; omega))
  have hb2 : Below w.heap.size w w' := (HBd.out.alloc HBd.out.size _).grown hg (by have := HBd.out.size; simp; omega) (fun k e => by cases e; exact HBd.out.size)
  obtain ⟨pa, pc, rfl, -, -⟩ := hes.shape
  rw [← H0.out.2.2.1] at hr hes hvl
  obtain ⟨y0, y1⟩ := hc2.net
  have z0 := hc2.frozen 0
  have z1 := hc2.frozen 1
  have HV := Lib.hid (fun q hq => (show q ≠ w.heap.size + 1 by have := hvl q hq; omega))
  have HF := Lib.hid (And.intro hes (And.intro hS2 (And.intro hc2 (And.intro hb2 (And.intro hS hwd)))))
  clear hxe ho o' hst hg hloc hvl hes hS2 hc2 hb2 hcd HBd hlt2 hS hwd
  refine next_till 2 (by kernel_rfl) rfl (fun K hK => ?_)
  go_simp
  refine hK.out _ _ (fun _ => HF.out.2.2.2.2.1.alloc _) ?_
  clear hK K
  refine next_till 5 (by kernel_rfl) rfl (fun K hK => ?_)
  refine wp_append_run (.tmp 5) (.tmp 7) _ rfl rfl rfl hr ?_
  refine hK.out _ _ (fun _ => HF.out.2.1) ?_
  simp only [Act.put, List.setIfInBounds_toArray]
  clear hK K hr
  refine next_till 6 (by kernel_rfl) rfl (fun K hK => ?_)
  go_simp
  refine hK.out _ _ (fun _ => HF.out.2.1) ?_
  clear hK K
  refine next_till 7 (by kernel_rfl) rfl (fun K hK => ?_)
  go_simp
  refine hK.out _ _ (fun _ => (HF.out.2.1.setCell (p := ⟨w.heap.size + 1, 0, none⟩) (.inl rfl) _).setCell (p := ⟨w.heap.size + 1, 1, none⟩) (.inl rfl) _) ?_
  clear hK K y0 y1 z0 z1
  refine done_till (by kernel_rfl) ?_ _
  go_wp2
  refine bodyPost_ret (jresults_cell rfl rfl (load_net ((HF.out.2.2.1.set 0 _).set 1 _))) rfl ?_
  refine ⟨_, rfl, ?_, (HF.out.2.2.2.1.setCell (by simp) _).setCell (by simp) _⟩
  exact es_apart HF.out.1 (((Only.refl (fun q => q = w.heap.size + 1) w').setCell (p := ⟨w.heap.size + 1, 0, none⟩) (.inl rfl) _).setCell (p := ⟨w.heap.size + 1, 1, none⟩) (.inl rfl) _) HV.out
end Go.Proofs.Ytohcoknnalgjnaa
