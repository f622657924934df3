/- What flows, times its edge's cost: both sums; condition: what flows and the costs are within their bounds. -/
import Derived.Test.YtmdjgkclbjbdiaaNtRange
import Derived.Deep.CutBlock
namespace Go.Proofs.Ytmdjgkclbjbdiaa
open Go.RowKit
attribute [local go_sem] Oper.semAt_some

theorem Cel.at0 {w : World} {g : Nat} {x : Nat} (h : Cel w g (wideL x) 50) : w.cell? ⟨g, 0, none⟩ = some (.int .u64 ((x / 18446744073709551616 : Nat) : Int)) := by rw [h.cell]; rfl
theorem Cel.at1 {w : World} {g : Nat} {x : Nat} (h : Cel w g (wideL x) 50) : w.cell? ⟨g, 1, none⟩ = some (.int .u64 ((x % 18446744073709551616 : Nat) : Int)) := by rw [h.cell]; rfl
theorem Cel.setw {w : World} {g : Nat} {x : Nat} (h : Cel w g (wideL x) 50) (a b : Value) (y : Nat) (ha : a = .int .u64 ((y / 18446744073709551616 : Nat) : Int)) (hb : b = .int .u64 ((y % 18446744073709551616 : Nat) : Int)) :
    Cel ((w.setCell ⟨g, 0, none⟩ a).setCell ⟨g, 1, none⟩ b) g (wideL y) 50 := by
  subst ha
  subst hb
  exact (h.set 0 _).set 1 _

/-- Behind k rounds. -/
def CR (w : World) (ls : Load) (k : Nat) (W : World) : Prop := Below w.heap.size w W ∧ Cel W w.heap.size (wideL (upN (ls.take k))) 50 ∧ Cel W (w.heap.size + 1) (wideL (dnN (ls.take k))) 50

/-- Behind all rounds. -/
def CE (w : World) (ls : Load) (W : World) : Prop := Below w.heap.size w W ∧ Cel W w.heap.size (wideL (upN ls)) 50 ∧ Cel W (w.heap.size + 1) (wideL (dnN ls)) 50 ∧ W.heap[w.heap.size + 2]? = some (.deferred (some []))
theorem CE.setA {w : World} {ls : Load} {W : World} (h : CE w ls W) : CE w ls ((W.setCell ⟨w.heap.size, 0, none⟩ (.int .u64 ((upN ls / 18446744073709551616 : Nat) : Int))).setCell ⟨w.heap.size, 1, none⟩ (.int .u64 ((upN ls % 18446744073709551616 : Nat) : Int))) :=
  ⟨(h.1.setCell (Nat.le_refl _) _).setCell (Nat.le_refl _) _, h.2.1.setw _ _ _ rfl rfl, h.2.2.1.kept ((Below.heap_setCell _ _ _ _ (by simp)).trans (Below.heap_setCell _ _ _ _ (by simp))), ((Below.heap_setCell _ _ _ _ (by simp)).trans (Below.heap_setCell _ _ _ _ (by simp))).trans h.2.2.2⟩
theorem CE.setB {w : World} {ls : Load} {W : World} (h : CE w ls W) : CE w ls ((W.setCell ⟨w.heap.size + 1, 0, none⟩ (.int .u64 ((dnN ls / 18446744073709551616 : Nat) : Int))).setCell ⟨w.heap.size + 1, 1, none⟩ (.int .u64 ((dnN ls % 18446744073709551616 : Nat) : Int))) :=
  ⟨(h.1.setCell (by simp) _).setCell (by simp) _, h.2.1.kept ((Below.heap_setCell _ _ _ _ (by simp)).trans (Below.heap_setCell _ _ _ _ (by simp))), h.2.2.1.setw _ _ _ rfl rfl, ((Below.heap_setCell _ _ _ _ (by simp)).trans (Below.heap_setCell _ _ _ _ (by simp))).trans h.2.2.2⟩

set_option maxRecDepth 100000 in
set_option maxHeartbeats 2000000 in
theorem costs_any {gf : Nat} {lb : Array Value} {ls : Load} {w : World} (eg : ∀ args w, (callFunc gf args).run Try.prog w = .ok (.enter gf args) w) (hL : Loads gf lb ls w (fun q => w.heap.size ≤ q)) (hs : ∀ p ∈ ls, SmallT p) (hn : ls.length ≤ 200) :
    Calls Try.prog 28 #[.func (.func gf) #[] lb] w fun e w' => e = .returned (.tuple #[wideV (upN ls), wideV (dnN ls)]) ∧ Below w.heap.size w w' := by
  refine ncalls_of_wp_marks 12 Try.func28 rfl ?_
  simp only [Try.ntmps28, List.size_toArray, List.length_cons, List.length_nil, Nat.reduceAdd, Nat.reduceSub, Array.replicate_succ, Array.replicate_zero, List.push_toArray, List.append_toArray, List.nil_append, List.cons_append]
  have HC := Lib.hid (And.intro hL (And.intro hs hn))
  clear hL hs hn
  go_wp2
  have hA : Cel ((w.alloc (.cells #[.int .u64 0, .int .u64 0] 50)).alloc (.cells #[.int .u64 0, .int .u64 0] 50)) w.heap.size (wideL 0) 50 := (Cel.new w _ _).alloc _
  have hB : Cel ((w.alloc (.cells #[.int .u64 0, .int .u64 0] 50)).alloc (.cells #[.int .u64 0, .int .u64 0] 50)) (w.heap.size + 1) (wideL 0) 50 := by
    have h : Cel ((w.alloc (.cells #[.int .u64 0, .int .u64 0] 50)).alloc (.cells #[.int .u64 0, .int .u64 0] 50)) (w.alloc (.cells #[.int .u64 0, .int .u64 0] 50)).heap.size (wideL 0) 50 := Cel.new _ _ _
    rwa [World.size_alloc] at h
  have hb : Below w.heap.size w ((w.alloc (.cells #[.int .u64 0, .int .u64 0] 50)).alloc (.cells #[.int .u64 0, .int .u64 0] 50)) := ((Below.refl _ _).alloc (Nat.le_refl _) _).alloc (by simp) _
  have hz : ((w.alloc (.cells #[.int .u64 0, .int .u64 0] 50)).alloc (.cells #[.int .u64 0, .int .u64 0] 50)).heap.size = w.heap.size + 2 := by simp
  generalize (w.alloc (.cells #[.int .u64 0, .int .u64 0] 50)).alloc (.cells #[.int .u64 0, .int .u64 0] 50) = wr at *
  refine range_loads (ls := ls) (w0 := w) rfl eg HC.out.1 rfl (CR w ls) (fun _ => False) ⟨hb, hA, hB⟩ (fun k W h => Only.of_below h.1 _) ?hst (fun _ _ h => h.elim) ?hround ?hend (fun _ h => h.elim)
  case hst =>
    rintro k W W' ⟨h1, h2, h3⟩ ho
    rw [hz] at ho
    have hs1 := h2.lt
    exact ⟨h1.trans (ho.below (by omega) (fun q hq => by omega)), h2.only ho (by omega), h3.only ho (by omega)⟩
  case hround =>
    rintro k p W hp ⟨h1, h2, h3⟩ hsz
    rw [hz] at hsz ⊢
    obtain ⟨e, f⟩ := p
    refine ⟨{ tmps := #[.func (.func gf) #[] lb, undef, .pointer (some ⟨w.heap.size, 0, none⟩), .pointer (some ⟨w.heap.size + 1, 0, none⟩), .pointer (some ⟨W.heap.size, 0, none⟩), .int .i64 f, .func (.func gf) #[] lb, edV e, .int .i64 f, undef, undef, undef, undef, undef, undef, undef, undef, undef, undef, undef, undef, undef, undef, undef, undef, undef, undef], defers := [] }, W.alloc (.cells #[.int .i64 e.fr, .int .i64 e.to, .int .i64 e.cap, .int .i64 e.cost] 39), (Below.refl _ _).alloc (Nat.le_refl _) _, fun K hK => ?_, ?_⟩
    · gi_wp2
      exact hK
    rintro W2 ho ⟨g1, g2, g3⟩
    obtain ⟨hL, hs, hn⟩ := HC.out
    obtain ⟨s1, s2, s3, s4⟩ := hs _ (List.mem_of_getElem? hp)
    simp only at s1 s2 s3 s4
    have ce := (Cel.new W #[.int .i64 e.fr, .int .i64 e.to, .int .i64 e.cap, .int .i64 e.cost] 39).only ho (by omega)
    have cc : ∀ V, Below W2.heap.size W2 V → V.cell? ⟨W.heap.size, 3, none⟩ = some (.int .i64 e.cost) := fun V hV => by rw [(ce.below hV ce.lt).cell]; rfl
    have ll := (List.getElem?_eq_some_iff.1 hp).1
    have hu := upN_take hp
    have hd := dnN_take hp
    have u1 := up_le (ls := ls.take k) (fun q hq => hs q (List.mem_of_mem_take hq))
    have u2 := dn_le (ls := ls.take k) (fun q hq => hs q (List.mem_of_mem_take hq))
    rw [List.length_take, Nat.min_eq_left (by omega)] at u1 u2
    obtain ⟨a, ha⟩ : ∃ a : Nat, f = (a : Int) := ⟨f.toNat, by omega⟩
    have hle := SmallT.le (p := (e, f)) ⟨s1, s2, s3, s4⟩
    have c3 := cc W2 (Below.refl _ _)
    have hsz3 : w.heap.size < W2.heap.size ∧ w.heap.size + 1 < W2.heap.size := ⟨g2.lt, g3.lt⟩
    by_cases hc : e.cost < 0
    · obtain ⟨b, hbe⟩ : ∃ b : Nat, (b : Int) = -e.cost := ⟨(-e.cost).toNat, by omega⟩
      have P := fun V => product_any a b (by omega) (by omega) V
      have e1 : dnT (e, f) = a * b := by
        unfold dnT
        simp only
        rw [if_pos hc, ha, ← hbe, ← Int.natCast_mul]
        exact Int.toNat_natCast _
      have e2 : upT (e, f) = 0 := by unfold upT; rw [if_pos hc]
      rw [e1] at hd hle
      rw [e2, Nat.add_zero] at hu
      have Q := fun V => plus_any (dnN (ls.take k)) (a * b) (by have := Nat.mul_le_mul_right 4503599627370496000 (show k ≤ 200 by omega); omega) V
      rw [hbe, ← ha] at P
      rw [← hd] at Q
      have HX := Lib.hid (And.intro (fun V (hV : Below W2.heap.size W2 V) => (And.intro (g3.below hV g3.lt).at0 (And.intro (g3.below hV g3.lt).at1 (cc V hV)))) (And.intro P (And.intro Q (And.intro g1 (And.intro g2 (And.intro g3 (And.intro hsz3 (And.intro hu hsz))))))))
      have hS0 : Below W2.heap.size W2 W2.drew := (Below.refl _ _).drew
      clear P Q hd hu e1 e2 hbe ha hle u1 u2 ll cc ce hs hn hL g1 g2 g3 hA hB hb h1 h2 h3 hsz3
      gi_wp2
      refine region_till_round 7 (fun V => Below W2.heap.size W2 V) (by kernel_rfl) (by kernel_rfl) (fun ⟨_, _, hh⟩ => hh) hS0 (fun hS => ?_)
      refine take_till (i := 0) (some 12) (wideV (dnN (ls.take k))) rfl rfl (by kernel_rfl) (by kernel_rfl) (by kernel_rfl) (by kernel_rfl) (by decide) (fun _ _ _ h => h) (by rfl) (fun W hW => ?_) hS ?_
      · obtain ⟨x0, x1, x2⟩ := HX.out.1 W hW
        clear hW
        go_simp
      simp only [Act.put, List.setIfInBounds_toArray, List.set_cons_zero, List.set_cons_succ]
      refine take_till (i := 1) (some 13) (.int .i64 f) rfl rfl (by kernel_rfl) (by kernel_rfl) (by kernel_rfl) (by kernel_rfl) (by decide) (fun _ _ _ h => h) (by rfl) (fun W hW => ?_) hS ?_
      · obtain ⟨x0, x1, x2⟩ := HX.out.1 W hW
        clear hW
        go_simp
      simp only [Act.put, List.setIfInBounds_toArray, List.set_cons_zero, List.set_cons_succ]
      refine take_till (i := 2) (some 14) (.pointer (some ⟨W.heap.size, 3, none⟩)) rfl rfl (by kernel_rfl) (by kernel_rfl) (by kernel_rfl) (by kernel_rfl) (by decide) (fun _ _ _ h => h) (by rfl) (fun W hW => ?_) hS ?_
      · obtain ⟨x0, x1, x2⟩ := HX.out.1 W hW
        clear hW
        go_simp
      simp only [Act.put, List.setIfInBounds_toArray, List.set_cons_zero, List.set_cons_succ]
      refine take_till (i := 3) (some 15) (.int .i64 e.cost) rfl rfl (by kernel_rfl) (by kernel_rfl) (by kernel_rfl) (by kernel_rfl) (by decide) (fun _ _ _ h => h) (by rfl) (fun W hW => ?_) hS ?_
      · obtain ⟨x0, x1, x2⟩ := HX.out.1 W hW
        clear hW
        go_simp
      simp only [Act.put, List.setIfInBounds_toArray, List.set_cons_zero, List.set_cons_succ]
      refine take_till (i := 4) (some 16) (.int .i64 (-e.cost)) rfl rfl (by kernel_rfl) (by kernel_rfl) (by kernel_rfl) (by kernel_rfl) (by decide) (fun _ _ _ h => h) (by rfl) (fun W hW => ?_) hS ?_
      · obtain ⟨x0, x1, x2⟩ := HX.out.1 W hW
        clear hW
        go_simp
        exact IntWalk.i64_in _ (by omega)
      simp only [Act.put, List.setIfInBounds_toArray, List.set_cons_zero, List.set_cons_succ]
      refine next_till 5 (by kernel_rfl) rfl (fun K hK => ?_)
      go_simp
      refine (HX.out.2.1 _).mono ?_
      rintro e5 w5 ⟨rfl, b5⟩
      have c5 : Below W2.heap.size W2 w5 := hS.trans b5
      clear b5
      go_simp
      refine hK.out _ _ (fun _ => c5) ?_
      clear hK K hS
      refine next_till 6 (by kernel_rfl) rfl (fun K hK => ?_)
      go_simp
      refine (HX.out.2.2.1 _).mono ?_
      rintro e6 w6 ⟨rfl, b6⟩
      have c6 : Below W2.heap.size W2 w6 := c5.trans (b6.mono c5.size)
      clear b6
      go_simp
      refine hK.out _ _ (fun _ => c6) ?_
      clear hK K c5
      have hx := HX.out.1 w6 c6
      obtain ⟨x0, x1, x2⟩ := hx
      refine next_till 7 (by kernel_rfl) rfl (fun K hK => ?_)
      have y0 := (HX.out.2.2.2.2.2.1.below c6 HX.out.2.2.2.2.2.1.lt).frozen 0
      have y1 := (HX.out.2.2.2.2.2.1.below c6 HX.out.2.2.2.2.2.1.lt).frozen 1
      go_simp
      refine hK.out _ _ (fun e => absurd rfl e) ?_
      clear hK K
      refine done_till (by kernel_rfl) ?_ _
      obtain ⟨-, -, -, g1, g2, g3, hsz3, hu, hsz4⟩ := HX.out
      refine ⟨((Only.of_below c6 _).setCell (p := ⟨w.heap.size + 1, 0, none⟩) (.inl (by simp only; omega)) _).setCell (p := ⟨w.heap.size + 1, 1, none⟩) (.inl (by simp only; omega)) _, ?_, ?_, ?_⟩
      · exact ((g1.trans (c6.mono g1.size)).setCell (by simp) _).setCell (by simp) _
      · rw [hu, Nat.add_zero]
        exact (g2.below c6 g2.lt).kept ((Below.heap_setCell _ _ _ _ (by simp)).trans (Below.heap_setCell _ _ _ _ (by simp)))
      · exact (g3.below c6 g3.lt).setw _ _ _ (by simp) (by simp)
    · obtain ⟨b, hbe⟩ : ∃ b : Nat, (b : Int) = e.cost := ⟨e.cost.toNat, by omega⟩
      have P := fun V => product_any a b (by omega) (by omega) V
      have e1 : upT (e, f) = a * b := by
        unfold upT
        simp only
        rw [if_neg hc, ha, ← hbe, ← Int.natCast_mul]
        exact Int.toNat_natCast _
      have e2 : dnT (e, f) = 0 := by unfold dnT; rw [if_neg hc]
      rw [e1] at hu hle
      rw [e2, Nat.add_zero] at hd
      have Q := fun V => plus_any (upN (ls.take k)) (a * b) (by have := Nat.mul_le_mul_right 4503599627370496000 (show k ≤ 200 by omega); omega) V
      rw [hbe, ← ha] at P
      rw [← hu] at Q
      have HX := Lib.hid (And.intro (fun V (hV : Below W2.heap.size W2 V) => (And.intro (g2.below hV g2.lt).at0 (And.intro (g2.below hV g2.lt).at1 (cc V hV)))) (And.intro P (And.intro Q (And.intro g1 (And.intro g2 (And.intro g3 (And.intro hsz3 (And.intro hd hsz))))))))
      have hS0 : Below W2.heap.size W2 W2.drew := (Below.refl _ _).drew
      clear P Q hd hu e1 e2 hbe ha hle u1 u2 ll cc ce hs hn hL g1 g2 g3 hA hB hb h1 h2 h3 hsz3
      gi_wp2
      refine region_till_round 6 (fun V => Below W2.heap.size W2 V) (by kernel_rfl) (by kernel_rfl) (fun ⟨_, _, hh⟩ => hh) hS0 (fun hS => ?_)
      refine take_till (i := 0) (some 19) (wideV (upN (ls.take k))) rfl rfl (by kernel_rfl) (by kernel_rfl) (by kernel_rfl) (by kernel_rfl) (by decide) (fun _ _ _ h => h) (by rfl) (fun W hW => ?_) hS ?_
      · obtain ⟨x0, x1, x2⟩ := HX.out.1 W hW
        clear hW
        go_simp
      simp only [Act.put, List.setIfInBounds_toArray, List.set_cons_zero, List.set_cons_succ]
      refine take_till (i := 1) (some 20) (.int .i64 f) rfl rfl (by kernel_rfl) (by kernel_rfl) (by kernel_rfl) (by kernel_rfl) (by decide) (fun _ _ _ h => h) (by rfl) (fun W hW => ?_) hS ?_
      · obtain ⟨x0, x1, x2⟩ := HX.out.1 W hW
        clear hW
        go_simp
      simp only [Act.put, List.setIfInBounds_toArray, List.set_cons_zero, List.set_cons_succ]
      refine take_till (i := 2) (some 21) (.pointer (some ⟨W.heap.size, 3, none⟩)) rfl rfl (by kernel_rfl) (by kernel_rfl) (by kernel_rfl) (by kernel_rfl) (by decide) (fun _ _ _ h => h) (by rfl) (fun W hW => ?_) hS ?_
      · obtain ⟨x0, x1, x2⟩ := HX.out.1 W hW
        clear hW
        go_simp
      simp only [Act.put, List.setIfInBounds_toArray, List.set_cons_zero, List.set_cons_succ]
      refine take_till (i := 3) (some 22) (.int .i64 e.cost) rfl rfl (by kernel_rfl) (by kernel_rfl) (by kernel_rfl) (by kernel_rfl) (by decide) (fun _ _ _ h => h) (by rfl) (fun W hW => ?_) hS ?_
      · obtain ⟨x0, x1, x2⟩ := HX.out.1 W hW
        clear hW
        go_simp
      simp only [Act.put, List.setIfInBounds_toArray, List.set_cons_zero, List.set_cons_succ]
      refine next_till 4 (by kernel_rfl) rfl (fun K hK => ?_)
      go_simp
      refine (HX.out.2.1 _).mono ?_
      rintro e5 w5 ⟨rfl, b5⟩
      have c5 : Below W2.heap.size W2 w5 := hS.trans b5
      clear b5
      go_simp
      refine hK.out _ _ (fun _ => c5) ?_
      clear hK K hS
      refine next_till 5 (by kernel_rfl) rfl (fun K hK => ?_)
      go_simp
      refine (HX.out.2.2.1 _).mono ?_
      rintro e6 w6 ⟨rfl, b6⟩
      have c6 : Below W2.heap.size W2 w6 := c5.trans (b6.mono c5.size)
      clear b6
      go_simp
      refine hK.out _ _ (fun _ => c6) ?_
      clear hK K c5
      have hx := HX.out.1 w6 c6
      obtain ⟨x0, x1, x2⟩ := hx
      refine next_till 6 (by kernel_rfl) rfl (fun K hK => ?_)
      have y0 := (HX.out.2.2.2.2.1.below c6 HX.out.2.2.2.2.1.lt).frozen 0
      have y1 := (HX.out.2.2.2.2.1.below c6 HX.out.2.2.2.2.1.lt).frozen 1
      go_simp
      refine hK.out _ _ (fun e => absurd rfl e) ?_
      clear hK K
      refine done_till (by kernel_rfl) ?_ _
      obtain ⟨-, -, -, g1, g2, g3, hsz3, hu, hsz4⟩ := HX.out
      refine ⟨((Only.of_below c6 _).setCell (p := ⟨w.heap.size, 0, none⟩) (.inl (by simp only; omega)) _).setCell (p := ⟨w.heap.size, 1, none⟩) (.inl (by simp only; omega)) _, ?_, ?_, ?_⟩
      · exact ((g1.trans (c6.mono g1.size)).setCell (Nat.le_refl _) _).setCell (Nat.le_refl _) _
      · exact (g2.below c6 g2.lt).setw _ _ _ (by simp) (by simp)
      · rw [hu, Nat.add_zero]
        exact (g3.below c6 g3.lt).kept ((Below.heap_setCell _ _ _ _ (by simp)).trans (Below.heap_setCell _ _ _ _ (by simp)))
  case hend =>
    rintro W ⟨h1, h2, h3⟩ hd
    rw [List.take_length] at h2 h3
    rw [hz] at hd ⊢
    have HX := Lib.hid (fun (V : World) (hV : CE w ls V) => (And.intro hV.2.1.at0 (And.intro hV.2.1.at1 (And.intro hV.2.2.1.at0 (And.intro hV.2.2.1.at1 (And.intro (hV.2.1.frozen 0) (And.intro (hV.2.1.frozen 1) (And.intro (hV.2.2.1.frozen 0) (hV.2.2.1.frozen 1)))))))))
    have hE : CE w ls W := ⟨h1, h2, h3, hd⟩
    have hS0 : CE w ls W.drew := ⟨h1.drew, h2.kept rfl, h3.kept rfl, hd⟩
    clear h1 h2 h3 hA hB hb hz hd
    go_wp2
    refine nwp_onward ?_
    refine region_till 99 (fun V => CE w ls V) (by kernel_rfl) hS0 (fun hS => ?_)
    clear hE
    generalize W.drew = Wd at *
    refine take_till (i := 0) (some 25) (wideV (upN ls)) rfl rfl (by kernel_rfl) (by kernel_rfl) (by kernel_rfl) (by kernel_rfl) (by decide) (fun _ _ _ h => h) (by rfl) (fun W hW => ?_) hS ?_
    · obtain ⟨x0, x1, x2, x3, _⟩ := HX.out W hW
      clear hW
      go_simp
    simp only [Act.put, List.setIfInBounds_toArray, List.set_cons_zero, List.set_cons_succ]
    refine take_till (i := 1) (some 26) (wideV (dnN ls)) rfl rfl (by kernel_rfl) (by kernel_rfl) (by kernel_rfl) (by kernel_rfl) (by decide) (fun _ _ _ h => h) (by rfl) (fun W hW => ?_) hS ?_
    · obtain ⟨x0, x1, x2, x3, _⟩ := HX.out W hW
      clear hW
      go_simp
    simp only [Act.put, List.setIfInBounds_toArray, List.set_cons_zero, List.set_cons_succ]
    obtain ⟨x0, x1, x2, x3, y0, y1, y2, y3⟩ := HX.out _ hS0
    refine next_till 2 (by kernel_rfl) rfl (fun K hK => ?_)
    go_simp
    have hE1 := hS0.setA
    have hS1 : CE w ls ((Wd.setCell ⟨w.heap.size, 0, none⟩ (.int .u64 ((upN ls : Int) / 18446744073709551616))).setCell ⟨w.heap.size, 1, none⟩ (.int .u64 ((upN ls : Int) % 18446744073709551616))) := by simpa using hE1
    refine hK.out _ _ (fun _ => hS1) ?_
    clear hK K x0 x1 x2 x3 y0 y1 y2 y3 hE1 hS hS0
    generalize (Wd.setCell ⟨w.heap.size, 0, none⟩ (.int .u64 ((upN ls : Int) / 18446744073709551616))).setCell ⟨w.heap.size, 1, none⟩ (.int .u64 ((upN ls : Int) % 18446744073709551616)) = We at *
    have hE1 := hS1
    obtain ⟨x0, x1, x2, x3, y0, y1, y2, y3⟩ := HX.out _ hE1
    refine next_till 3 (by kernel_rfl) rfl (fun K hK => ?_)
    go_simp
    have hE2 := hE1.setB
    have hS2 : CE w ls ((We.setCell ⟨w.heap.size + 1, 0, none⟩ (.int .u64 ((dnN ls : Int) / 18446744073709551616))).setCell ⟨w.heap.size + 1, 1, none⟩ (.int .u64 ((dnN ls : Int) % 18446744073709551616))) := by simpa using hE2
    refine hK.out _ _ (fun _ => hS2) ?_
    clear hK K x0 x1 x2 x3 y0 y1 y2 y3 hE1 hS1 hE2
    generalize (We.setCell ⟨w.heap.size + 1, 0, none⟩ (.int .u64 ((dnN ls : Int) / 18446744073709551616))).setCell ⟨w.heap.size + 1, 1, none⟩ (.int .u64 ((dnN ls : Int) % 18446744073709551616)) = Wf at *
    refine done_till (by kernel_rfl) ?_ _
    simp only [NOnward]
    have HE := Lib.hid hS2
    clear hS2
    go_wp2
    refine ⟨by simp, .inl ⟨_, _, rfl, run_takeDeferred HE.out.2.2.2, ?_⟩⟩
    obtain ⟨h1, h2, h3, h4⟩ := HE.out
    have hlt := (Array.getElem?_eq_some_iff.1 h4).1
    have ho := only_put Wf hlt (.deferred none) (S := fun q => q = w.heap.size + 2) rfl
    exact ⟨_, jresults_two rfl rfl rfl (load_wide (h2.only ho (by omega))) (load_wide (h3.only ho (by omega))), rfl, h1.trans (ho.below (by omega) (fun q hq => by omega))⟩
end Go.Proofs.Ytmdjgkclbjbdiaa
