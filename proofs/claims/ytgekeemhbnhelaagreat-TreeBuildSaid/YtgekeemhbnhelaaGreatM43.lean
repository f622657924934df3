/- A step that a statement does at a desk: a Put: its walk; condition: enough pages are free. -/
import Derived.Test.YtgekeemhbnhelaaGreatM42
namespace Go.Proofs.YtgekeemhbnhelaaGreat
open Go.RowKit

/-- Bytes copied behind an empty row of the call's own. -/
theorem copy_run {w : World} {b : Nat} {x : Value} {m : Bytes} (hv : Ow w b 5 (.slice (some ⟨b, 0, none⟩) 0 0) []) (hx : Bs w x m) (hn : m.length ≤ 1000000) :
    ∃ a n c w', (Builtin.append_ #[23, 23] 23 #[.slice (some ⟨b, 0, none⟩) 0 0, x]).run Tryz.prog w = .ok (.slice a n c) w' ∧ Bs w' (.slice a n c) m ∧ w.grownBy w' (some b) ∧ ∀ q, (Value.slice a n c).ownBlock = some q → q = b ∨ q = w.heap.size := by
  obtain ⟨i, hi, hz, hs, hb⟩ := bt.parts
  obtain ⟨a, cap, rfl, h2, h3, h4, h5⟩ := hx
  rcases a with _ | ad
  · have hc := h4 rfl
    subst hc
    have hm : m = [] := List.eq_nil_of_length_eq_zero (by omega)
    subst hm
    exact ⟨some ⟨b, 0, none⟩, 0, 0, w, run_append_owned_none (P := Tryz.prog) w b 23 23 5 i 1 bt.slice hi _ 0 _ hv, hv.bs, ⟨rfl, rfl, rfl, Nat.le_refl _, fun _ _ _ => rfl⟩, fun q hq => by cases hq; exact .inl rfl⟩
  · obtain ⟨v', w', hr, ho, hg, _, hloc⟩ := run_append_own_at (P := Tryz.prog) (w := w) b 23 23 5 i (.int .u8 0) 1 1 bt.slice hi hz hs hb rfl (by decide) _ 0 (bvs []) hv ad m.length cap (bvs m) (by simp [bvs_length])
      (h5 ad rfl) bvs_one (by unfold maxLen; omega) (by omega) (Nat.le_of_lt (World.ownsRow.lt hv b rfl).2)
    have hbs : Bs w' v' m := by
      have h6 : Ow w' b 5 v' m := by simpa [Ow, bvs] using ho
      exact h6.bs
    obtain ⟨a', c', rfl, _⟩ := hbs.shape
    refine ⟨a', m.length, c', w', hr, hbs, hg, fun q hq => ?_⟩
    rcases hloc with e | e
    · rw [e] at hq; cases hq; exact .inl rfl
    · rw [e] at hq; cases hq; exact .inr rfl
theorem only_grown {w w' : World} {b : Nat} (hg : w.grownBy w' (some b)) : Only (fun q => q = b) w w' := ⟨hg.os, hg.tape, hg.output, hg.size, fun k hk hs => hg.block k hk fun e => hs (by cases e; rfl)⟩

section
variable {w0 w : World} {xb tb db pb N n K : Nat} {D : Dv} {ps : List Pg} {root : Int} {prs : List Pr} {pgs : List Nat} {S : Nat → Prop} {av kv vv : Value} {key val : Bytes} {sb : Bool}
set_option maxRecDepth 100000 in
set_option maxHeartbeats 8000000 in
theorem does_put (h : Dx w0 w xb tb db pb N n D ps root prs pgs S) (hav : Rd kdPr w S av prs) (hkv : Bsf w S kv key) (hvv : Bsf w S vv val) (hK : ∀ lvl, 2 ^ lvl ≤ N + 1 → 2 * lvl + 3 ≤ K) (hfree : K ≤ freeP ps) (hn : n ≤ 4000000000) (hfew : prs.length ≤ 900000) :
    Calls Tryz.prog 12 #[ptr xb, .int .i64 root, av, .agg #[.bool false, kv, vv, .bool sb]] w (Doer w0 w xb tb db pb N n K D ps S (stepP prs ⟨false, key, val, sb⟩)) := by
  obtain ⟨ka, kc, rfl, _⟩ := hkv.1.shape
  obtain ⟨va, vc, rfl, _⟩ := hvv.1.shape
  obtain ⟨aa, ac, rfl, _⟩ := hav.shape
  obtain ⟨an, han⟩ : ∃ an, an = prs.length := ⟨_, rfl⟩
  obtain ⟨kn, hkn⟩ : ∃ kn, kn = key.length := ⟨_, rfl⟩
  obtain ⟨vn, hvn⟩ : ∃ vn, vn = val.length := ⟨_, rfl⟩
  rw [← han] at hav ⊢
  rw [← hkn] at hkv ⊢
  rw [← hvn] at hvv ⊢
  have hb1 : Below w.heap.size w (w.alloc (.cells #[.bool false, .slice ka kn kc, .slice va vn vc, .bool sb] 30)) := (Below.refl _ _).alloc (Nat.le_refl _) _
  have hb2 : Below w.heap.size w (w.alloc (.cells #[.bool false, .slice ka kn kc, .slice va vn vc, .bool sb] 30)).drew := below_drewN hb1 1
  have C1 := (Cel.new w #[.bool false, .slice ka kn kc, .slice va vn vc, .bool sb] 30)
  have C2 : Cel (w.alloc (.cells #[.bool false, .slice ka kn kc, .slice va vn vc, .bool sb] 30)).drew w.heap.size [.bool false, .slice ka kn kc, .slice va vn vc, .bool sb] 30 := C1
  obtain ⟨W2, hW2⟩ : ∃ W2, W2 = (w.alloc (.cells #[.bool false, .slice ka kn kc, .slice va vn vc, .bool sb] 30)).drew := ⟨_, rfl⟩
  rw [← hW2] at hb2 C2
  have st2 := Step.of_below hb2 S
  have h2 := h.later hb2
  have hk2 := hkv.step st2
  have hv2 := hvv.step st2
  have hnS : ¬ S w.heap.size := fun hq => Nat.lt_irrefl _ (h.tr.lt _ hq)
  have q0 := C1.cell 0
  have HH := Lib.hid (And.intro h2 (And.intro (hav.step st2) (And.intro hk2 (And.intro hv2 (And.intro C2 (And.intro hnS (And.intro st2 hfew)))))))
  have S1 : W2.cell? ⟨xb, 2, none⟩ = some (ptr tb) := h2.cel.cell 2
  have S2 : W2.cell? ⟨w.heap.size, 1, none⟩ = some (.slice ka kn kc) := C2.cell 1
  have S3 : W2.cell? ⟨w.heap.size, 2, none⟩ = some (.slice va vn vc) := C2.cell 2
  have HX := Lib.hid (fun (W : World) (hW : W.cell? ⟨xb, 2, none⟩ = some (ptr tb) ∧ W.cell? ⟨w.heap.size, 1, none⟩ = some (.slice ka kn kc) ∧ W.cell? ⟨w.heap.size, 2, none⟩ = some (.slice va vn vc)) => hW)
  have HW := Lib.hid hW2
  by_cases hm : (mayK key && mayV val) = true
  · obtain ⟨hmk, hmv⟩ := Bool.and_eq_true_iff.1 hm
    have hsp : stepP prs ⟨false, key, val, sb⟩ = putP prs key val := by
      unfold stepP mayS
      rw [Bool.false_or, hm]
      rfl
    rw [hsp]
    have CU := dx_put h2 hk2 hv2 hmk hmv hK hfree hn
    rw [hW2] at CU S1 S2 S3
    have HM := Lib.hid (And.intro hmk hmv)
    clear h hav hkv hvv hb1 hb2 C1 C2 h2 hk2 hv2 hm hmk hmv hsp han hkn hvn st2 hnS hW2
    go_enter Tryz.func12, Tryz.ntmps12
    go_wp2
    refine region_till 99 (fun W => W.cell? ⟨xb, 2, none⟩ = some (ptr tb) ∧ W.cell? ⟨w.heap.size, 1, none⟩ = some (.slice ka kn kc) ∧ W.cell? ⟨w.heap.size, 2, none⟩ = some (.slice va vn vc)) (by kernel_rfl) ⟨S1, S2, S3⟩ (fun hS => ?_)
    clear S1 S2 S3
    refine take_till (i := 0) (some 75) (ptr xb) rfl rfl (by kernel_rfl) (by kernel_rfl) (by kernel_rfl) (by kernel_rfl) (by decide) (fun _ _ _ h => h) (by rfl) (fun W hW => ?_) hS ?_
    · have hx := HX.out W hW
      clear hW
      go_simp
    simp only [Act.put, List.setIfInBounds_toArray, List.set_cons_zero, List.set_cons_succ]
    refine take_till (i := 1) (some 76) (ptr xb) rfl rfl (by kernel_rfl) (by kernel_rfl) (by kernel_rfl) (by kernel_rfl) (by decide) (fun _ _ _ h => h) (by rfl) (fun W hW => ?_) hS ?_
    · have hx := HX.out W hW
      clear hW
      go_simp
    simp only [Act.put, List.setIfInBounds_toArray, List.set_cons_zero, List.set_cons_succ]
    refine take_till (i := 2) (some 77) (.pointer (some ⟨xb, 2, none⟩)) rfl rfl (by kernel_rfl) (by kernel_rfl) (by kernel_rfl) (by kernel_rfl) (by decide) (fun _ _ _ h => h) (by rfl) (fun W hW => ?_) hS ?_
    · have hx := HX.out W hW
      clear hW
      go_simp
    simp only [Act.put, List.setIfInBounds_toArray, List.set_cons_zero, List.set_cons_succ]
    refine take_till (i := 3) (some 78) (ptr tb) rfl rfl (by kernel_rfl) (by kernel_rfl) (by kernel_rfl) (by kernel_rfl) (by decide) (fun _ _ _ h => h) (by rfl) (fun W hW => ?_) hS ?_
    · have hx := HX.out W hW
      clear hW
      go_simp
    simp only [Act.put, List.setIfInBounds_toArray, List.set_cons_zero, List.set_cons_succ]
    refine take_till (i := 4) (some 79) (.int .i64 root) rfl rfl (by kernel_rfl) (by kernel_rfl) (by kernel_rfl) (by kernel_rfl) (by decide) (fun _ _ _ h => h) (by rfl) (fun W hW => ?_) hS ?_
    · have hx := HX.out W hW
      clear hW
      go_simp
    simp only [Act.put, List.setIfInBounds_toArray, List.set_cons_zero, List.set_cons_succ]
    refine take_till (i := 5) (some 80) (.pointer (some ⟨w.heap.size, 1, none⟩)) rfl rfl (by kernel_rfl) (by kernel_rfl) (by kernel_rfl) (by kernel_rfl) (by decide) (fun _ _ _ h => h) (by rfl) (fun W hW => ?_) hS ?_
    · have hx := HX.out W hW
      clear hW
      go_simp
    simp only [Act.put, List.setIfInBounds_toArray, List.set_cons_zero, List.set_cons_succ]
    refine take_till (i := 6) (some 81) (.slice ka kn kc) rfl rfl (by kernel_rfl) (by kernel_rfl) (by kernel_rfl) (by kernel_rfl) (by decide) (fun _ _ _ h => h) (by rfl) (fun W hW => ?_) hS ?_
    · have hx := HX.out W hW
      clear hW
      go_simp
    simp only [Act.put, List.setIfInBounds_toArray, List.set_cons_zero, List.set_cons_succ]
    refine take_till (i := 7) (some 82) (.pointer (some ⟨w.heap.size, 2, none⟩)) rfl rfl (by kernel_rfl) (by kernel_rfl) (by kernel_rfl) (by kernel_rfl) (by decide) (fun _ _ _ h => h) (by rfl) (fun W hW => ?_) hS ?_
    · have hx := HX.out W hW
      clear hW
      go_simp
    simp only [Act.put, List.setIfInBounds_toArray, List.set_cons_zero, List.set_cons_succ]
    refine take_till (i := 8) (some 83) (.slice va vn vc) rfl rfl (by kernel_rfl) (by kernel_rfl) (by kernel_rfl) (by kernel_rfl) (by decide) (fun _ _ _ h => h) (by rfl) (fun W hW => ?_) hS ?_
    · have hx := HX.out W hW
      clear hW
      go_simp
    simp only [Act.put, List.setIfInBounds_toArray, List.set_cons_zero, List.set_cons_succ]
    refine next_till 9 (by kernel_rfl) rfl (fun Kx hK => ?_)
    go_simp
    refine CU.mono ?_
    rintro e w5 ⟨r, rfl, D', ps', pgs', S', st5, hf5, hc5, hd5⟩
    clear CU
    obtain ⟨h2, ha2, hk2, hv2, C2, hnS, st2, hfew⟩ := HH.out
    rw [← HW.out] at st5
    have T1 : w5.cell? ⟨xb, 2, none⟩ = some (ptr tb) := hd5.cel.cell 2
    have C5 := C2.only st5.only hnS
    have T2 : w5.cell? ⟨w.heap.size, 1, none⟩ = some (.slice ka kn kc) := C5.cell 1
    have T3 : w5.cell? ⟨w.heap.size, 2, none⟩ = some (.slice va vn vc) := C5.cell 2
    refine hK.out _ _ (fun _ => ⟨T1, T2, T3⟩) ?_
    clear hK Kx
    replace hS : w5.cell? ⟨xb, 2, none⟩ = some (ptr tb) ∧ w5.cell? ⟨w.heap.size, 1, none⟩ = some (.slice ka kn kc) ∧ w5.cell? ⟨w.heap.size, 2, none⟩ = some (.slice va vn vc) := ⟨T1, T2, T3⟩
    have MK := rmayKey_any w5 (hk2.step st5).1
    have MV := rmayVal_any w5 (hv2.step st5).1
    rw [HM.out.1] at MK
    rw [HM.out.2] at MV
    have H5 := Lib.hid (And.intro (st2.trans st5) (And.intro hf5 (And.intro hc5 (And.intro hd5 (And.intro C5 (And.intro (ha2.step st5) (And.intro (hk2.step st5) (hv2.step st5))))))))
    have HR := Lib.hid (And.intro h2.hold.rt.rise hfew)
    clear h2 ha2 hk2 hv2 C2 hnS st2 st5 hf5 hc5 hd5 C5 T1 T2 T3 hfew
    refine take_till (i := 10) (some 74) (.tuple #[.int .i64 r, err 0]) rfl rfl (by kernel_rfl) (by kernel_rfl) (by kernel_rfl) (by kernel_rfl) (by decide) (fun _ _ _ h => h) (by rfl) (fun W hW => ?_) hS ?_
    · have hx := HX.out W hW
      clear hW
      go_simp
    simp only [Act.put, List.setIfInBounds_toArray, List.set_cons_zero, List.set_cons_succ]
    refine take_till (i := 11) (some 85) (.int .i64 r) rfl rfl (by kernel_rfl) (by kernel_rfl) (by kernel_rfl) (by kernel_rfl) (by decide) (fun _ _ _ h => h) (by rfl) (fun W hW => ?_) hS ?_
    · have hx := HX.out W hW
      clear hW
      go_simp
    simp only [Act.put, List.setIfInBounds_toArray, List.set_cons_zero, List.set_cons_succ]
    refine take_till (i := 12) (some 86) (err 0) rfl rfl (by kernel_rfl) (by kernel_rfl) (by kernel_rfl) (by kernel_rfl) (by decide) (fun _ _ _ h => h) (by rfl) (fun W hW => ?_) hS ?_
    · have hx := HX.out W hW
      clear hW
      go_simp
    simp only [Act.put, List.setIfInBounds_toArray, List.set_cons_zero, List.set_cons_succ]
    refine take_till (i := 13) (some 16) (.int .i64 r) rfl rfl (by kernel_rfl) (by kernel_rfl) (by kernel_rfl) (by kernel_rfl) (by decide) (fun _ _ _ h => h) (by rfl) (fun W hW => ?_) hS ?_
    · have hx := HX.out W hW
      clear hW
      go_simp
    simp only [Act.put, List.setIfInBounds_toArray, List.set_cons_zero, List.set_cons_succ]
    refine take_till (i := 14) (some 17) (err 0) rfl rfl (by kernel_rfl) (by kernel_rfl) (by kernel_rfl) (by kernel_rfl) (by decide) (fun _ _ _ h => h) (by rfl) (fun W hW => ?_) hS ?_
    · have hx := HX.out W hW
      clear hW
      go_simp
    simp only [Act.put, List.setIfInBounds_toArray, List.set_cons_zero, List.set_cons_succ]
    refine done_till (by kernel_rfl) ?_ _
    obtain ⟨T1, T2, T3⟩ := hS
    go_wp2_with fail
    refine MK.mono ?_
    rintro e w7 ⟨rfl, rfl⟩
    clear MK
    go_wp2_with fail
    refine MV.mono ?_
    rintro e w7 ⟨rfl, rfl⟩
    clear MV
    go_wp2
    have hd1 : Below w5.heap.size w5 w5.drew := (Below.refl _ _).drew
    have FF : ∀ W, Below w5.heap.size w5 W → W.cell? ⟨xb, 2, none⟩ = some (ptr tb) ∧ W.cell? ⟨w.heap.size, 1, none⟩ = some (.slice ka kn kc) ∧ W.cell? ⟨w.heap.size, 2, none⟩ = some (.slice va vn vc) := fun W hb => by
      have hC := H5.out.2.2.2.2.1.below hb H5.out.2.2.2.2.1.lt
      exact ⟨(H5.out.2.2.2.1.later hb).cel.cell 2, hC.cell 1, hC.cell 2⟩
    have HF := Lib.hid FF
    clear FF T1 T2 T3
    refine region_till 99 (fun W => W.cell? ⟨xb, 2, none⟩ = some (ptr tb) ∧ W.cell? ⟨w.heap.size, 1, none⟩ = some (.slice ka kn kc) ∧ W.cell? ⟨w.heap.size, 2, none⟩ = some (.slice va vn vc)) (by kernel_rfl) (HF.out _ hd1) (fun hS => ?_)
    refine take_till (i := 0) (some 105) (.int .i64 r) rfl rfl (by kernel_rfl) (by kernel_rfl) (by kernel_rfl) (by kernel_rfl) (by decide) (fun _ _ _ h => h) (by rfl) (fun W hW => ?_) hS ?_
    · have hx := HX.out W hW
      clear hW
      go_simp
    simp only [Act.put, List.setIfInBounds_toArray, List.set_cons_zero, List.set_cons_succ]
    refine take_till (i := 1) (some 106) (.slice aa an ac) rfl rfl (by kernel_rfl) (by kernel_rfl) (by kernel_rfl) (by kernel_rfl) (by decide) (fun _ _ _ h => h) (by rfl) (fun W hW => ?_) hS ?_
    · have hx := HX.out W hW
      clear hW
      go_simp
    simp only [Act.put, List.setIfInBounds_toArray, List.set_cons_zero, List.set_cons_succ]
    refine take_till (i := 3) (some 108) (.pointer (some ⟨w.heap.size, 1, none⟩)) rfl rfl (by kernel_rfl) (by kernel_rfl) (by kernel_rfl) (by kernel_rfl) (by decide) (fun _ _ _ h => h) (by rfl) (fun W hW => ?_) hS ?_
    · have hx := HX.out W hW
      clear hW
      go_simp
    simp only [Act.put, List.setIfInBounds_toArray, List.set_cons_zero, List.set_cons_succ]
    refine take_till (i := 4) (some 109) (.slice ka kn kc) rfl rfl (by kernel_rfl) (by kernel_rfl) (by kernel_rfl) (by kernel_rfl) (by decide) (fun _ _ _ h => h) (by rfl) (fun W hW => ?_) hS ?_
    · have hx := HX.out W hW
      clear hW
      go_simp
    simp only [Act.put, List.setIfInBounds_toArray, List.set_cons_zero, List.set_cons_succ]
    refine take_till (i := 7) (some 112) (.pointer (some ⟨w.heap.size, 2, none⟩)) rfl rfl (by kernel_rfl) (by kernel_rfl) (by kernel_rfl) (by kernel_rfl) (by decide) (fun _ _ _ h => h) (by rfl) (fun W hW => ?_) hS ?_
    · have hx := HX.out W hW
      clear hW
      go_simp
    simp only [Act.put, List.setIfInBounds_toArray, List.set_cons_zero, List.set_cons_succ]
    refine take_till (i := 8) (some 113) (.slice va vn vc) rfl rfl (by kernel_rfl) (by kernel_rfl) (by kernel_rfl) (by kernel_rfl) (by decide) (fun _ _ _ h => h) (by rfl) (fun W hW => ?_) hS ?_
    · have hx := HX.out W hW
      clear hW
      go_simp
    simp only [Act.put, List.setIfInBounds_toArray, List.set_cons_zero, List.set_cons_succ]
    obtain ⟨W0, hW0⟩ : ∃ W0, W0 = w5.drew := ⟨_, rfl⟩
    rw [← hW0] at hd1 hS ⊢
    clear hW0
    have hz1 : (W0.alloc (.cells #[] 5)).heap.size = W0.heap.size + 1 := by simp
    have ha1 : Below W0.heap.size W0 (W0.alloc (.cells #[] 5)) := (Below.refl _ _).alloc (Nat.le_refl _) _
    have hb1 := hd1.trans (ha1.mono hd1.size)
    have HD := Lib.hid (And.intro hd1 (And.intro hz1 (And.intro ha1 hb1)))
    have hkl : key.length ≤ 1000000 := by have := HM.out.1; unfold mayK at this; have := of_decide_eq_true this; omega
    have hvl : val.length ≤ 1000000 := by have := HM.out.2; unfold mayV at this; have := of_decide_eq_true this; omega
    have HLL := Lib.hid (And.intro hkl hvl)
    clear hd1 hz1 ha1 hb1 hkl hvl
    refine two_till 2 6 (by kernel_rfl) rfl rfl (fun Kx hK => ?_) (fun Kx hK => ?_)
    · go_simp
      refine hK.out _ _ (fun _ => HF.out _ HD.out.2.2.2) ?_
      clear hK Kx
      refine two_till 5 6 (by kernel_rfl) rfl rfl (fun Kx hK => ?_) (fun Kx hK => ?_)
      · skip
        obtain ⟨a1, n1, c1, Wb, hrun1, B1, g1, O1⟩ := copy_run (ow_empty W0) (H5.out.2.2.2.2.2.2.1.1.below HD.out.2.2.2) HLL.out.1
        have hbb : Below w5.heap.size w5 Wb := HD.out.2.2.2.trans ((only_grown g1).below (B := w5.heap.size) HD.out.2.2.2.size fun q hq => by have := HD.out.1.size; omega)
        have hac : Below Wb.heap.size Wb (Wb.alloc (.cells #[] 5)) := (Below.refl _ _).alloc (Nat.le_refl _) _
        have hbc := hbb.trans (hac.mono hbb.size)
        obtain ⟨a2, n2, c2, Wd, hrun2, B2, g2, O2⟩ := copy_run (ow_empty Wb) (H5.out.2.2.2.2.2.2.2.1.below hbc) HLL.out.2
        have hO1 : ∀ q, (Value.slice a1 n1 c1).ownBlock = some q → w5.heap.size ≤ q ∧ q < Wb.heap.size := fun q hq => by
          have h1 := HD.out.1.size
          have h2 := HD.out.2.1
          have h3 := g1.size
          have h4 := B1.in_heap (by intro e; have := HM.out.1; rw [e] at this; cases this) hq
          rcases O1 q hq with e | e <;> omega
        have hbd : Below w5.heap.size w5 Wd := hbc.trans ((only_grown g2).below (B := w5.heap.size) hbc.size fun q hq => by have := hbb.size; omega)
        have B1' : Bs Wd (.slice a1 n1 c1) key := (B1.below hac).only (only_grown g2) fun q hq e => by have := (hO1 q hq).2; omega
        have hO2 : ∀ q, (Value.slice a2 n2 c2).ownBlock = some q → w5.heap.size ≤ q := fun q hq => by
          have h1 := hbb.size
          have h2 := hbc.size
          rcases O2 q hq with e | e <;> omega
        have HX9 := Lib.hid (And.intro B1' (And.intro B2 (And.intro (fun q hq => (hO1 q hq).1) (And.intro hO2 hbd))))
        have HB9 := Lib.hid (And.intro hbb hbc)
        clear B1 B2 g1 g2 O1 O2 hbb hac hbc hO1 hbd B1' hO2
        refine wp_append_run (.tmp 107) (.tmp 109) 23 rfl rfl rfl hrun1 ?_
        refine hK.out _ _ (fun _ => HF.out _ HB9.out.1) ?_
        clear hK Kx
        refine next_till 6 (by kernel_rfl) rfl (fun Kx hK => ?_)
        go_simp
        refine hK.out _ _ (fun _ => HF.out _ HB9.out.2) ?_
        clear hK Kx
        refine next_till 9 (by kernel_rfl) rfl (fun Kx hK => ?_)
        refine wp_append_run (.tmp 111) (.tmp 113) 23 rfl rfl rfl hrun2 ?_
        refine hK.out _ _ (fun _ => HF.out _ HX9.out.2.2.2.2) ?_
        clear hK Kx hrun1 hrun2
        have PT := rput_any Wd (H5.out.2.2.2.2.2.1.step (Step.of_below HX9.out.2.2.2.2 S')) HR.out.1 (kv := .slice a1 n1 c1) (vv := .slice a2 n2 c2) ⟨HX9.out.1, fun _ q hq hs => by have := HX9.out.2.2.1 q hq; have := H5.out.2.2.2.1.tr.lt q hs; omega⟩ ⟨HX9.out.2.1, fun _ q hq hs => by have := HX9.out.2.2.2.1 q hq; have := H5.out.2.2.2.1.tr.lt q hs; omega⟩ (fun q hq => Nat.lt_of_lt_of_le (H5.out.2.2.2.1.tr.lt q hq) HX9.out.2.2.2.2.size) HR.out.2
        refine next_till 10 (by kernel_rfl) rfl (fun Kx hK => ?_)
        go_simp
        refine PT.mono ?_
        rintro e wf ⟨v9, rfl, hv9, hb9⟩
        clear PT
        have hbf := HX9.out.2.2.2.2.trans (hb9.mono HX9.out.2.2.2.2.size)
        have H9 := Lib.hid (And.intro hv9 hbf)
        clear hv9 hb9 hbf
        refine hK.out _ _ (fun _ => HF.out _ H9.out.2) ?_
        clear hK Kx
        have hS := HF.out _ H9.out.2
        obtain ⟨b1, b2, b3, rfl⟩ : ∃ x y z, v9 = .slice x y z := by obtain ⟨x, y, e, _⟩ := H9.out.1.shape; exact ⟨_, _, _, e⟩
        refine take_till (i := 11) (some 8) (.int .i64 r) rfl rfl (by kernel_rfl) (by kernel_rfl) (by kernel_rfl) (by kernel_rfl) (by decide) (fun _ _ _ h => h) (by rfl) (fun W hW => ?_) hS ?_
        · have hx := HX.out W hW
          clear hW
          go_simp
        simp only [Act.put, List.setIfInBounds_toArray, List.set_cons_zero, List.set_cons_succ]
        refine take_till (i := 12) (some 9) (.slice b1 b2 b3) rfl rfl (by kernel_rfl) (by kernel_rfl) (by kernel_rfl) (by kernel_rfl) (by decide) (fun _ _ _ h => h) (by rfl) (fun W hW => ?_) hS ?_
        · have hx := HX.out W hW
          clear hW
          go_simp
        simp only [Act.put, List.setIfInBounds_toArray, List.set_cons_zero, List.set_cons_succ]
        refine take_till (i := 13) (some 10) (.bool true) rfl rfl (by kernel_rfl) (by kernel_rfl) (by kernel_rfl) (by kernel_rfl) (by decide) (fun _ _ _ h => h) (by rfl) (fun W hW => ?_) hS ?_
        · have hx := HX.out W hW
          clear hW
          go_simp
        simp only [Act.put, List.setIfInBounds_toArray, List.set_cons_zero, List.set_cons_succ]
        refine done_till (by kernel_rfl) ?_ _
        clear hS
        go_wp2
        go_ret3
        obtain ⟨st5, hf5, hc5, hd5, C5, ha5, hk5, hv5⟩ := H5.out
        exact ⟨_, _, D', ps', pgs', S', rfl, st5.bel H9.out.2, hf5, hc5, hd5.later H9.out.2, H9.out.1⟩
      · go_simp
        have hab : Below (W0.alloc (.cells #[] 5)).heap.size (W0.alloc (.cells #[] 5)) ((W0.alloc (.cells #[] 5)).alloc (.cells #[] 5)) := (Below.refl _ _).alloc (Nat.le_refl _) _
        have hbb : Below w5.heap.size w5 ((W0.alloc (.cells #[] 5)).alloc (.cells #[] 5)) := HD.out.2.2.2.trans (hab.mono HD.out.2.2.2.size)
        have hE2 := ow_empty (W0.alloc (.cells #[] 5))
        rw [HD.out.2.1] at hE2
        have hz2 : ((W0.alloc (.cells #[] 5)).alloc (.cells #[] 5)).heap.size = W0.heap.size + 2 := by simp
        have h50 := HD.out.1.size
        obtain ⟨a1, n1, c1, Wc, hrun1, B1, g1, O1⟩ := copy_run (b := W0.heap.size) ((ow_empty W0).below hab) (H5.out.2.2.2.2.2.2.1.1.below hbb) HLL.out.1
        have hbc : Below w5.heap.size w5 Wc := hbb.trans ((only_grown g1).below (B := w5.heap.size) hbb.size fun q hq => by omega)
        have hE1 : Ow Wc (W0.heap.size + 1) 5 (.slice (some ⟨(W0.heap.size + 1), 0, none⟩) 0 0) [] := Ow.grown (hE2) g1 (.inr (by intro e; simp [Value.ownBlock] at e))
        obtain ⟨a2, n2, c2, Wd, hrun2, B2, g2, O2⟩ := copy_run (b := (W0.heap.size + 1)) hE1 (H5.out.2.2.2.2.2.2.2.1.below hbc) HLL.out.2
        have hbd : Below w5.heap.size w5 Wd := hbc.trans ((only_grown g2).below (B := w5.heap.size) hbc.size fun q hq => by omega)
        have hcz := g1.size
        have hO1 : ∀ q, (Value.slice a1 n1 c1).ownBlock = some q → w5.heap.size ≤ q ∧ q ≠ (W0.heap.size + 1) := fun q hq => by
          rcases O1 q hq with e | e <;> omega
        have B1' : Bs Wd (.slice a1 n1 c1) key := B1.only (only_grown g2) fun q hq e => (hO1 q hq).2 e
        have hO2 : ∀ q, (Value.slice a2 n2 c2).ownBlock = some q → w5.heap.size ≤ q := fun q hq => by
          rcases O2 q hq with e | e <;> omega
        have HX9 := Lib.hid (And.intro B1' (And.intro B2 (And.intro (fun q hq => (hO1 q hq).1) (And.intro hO2 hbd))))
        have HB9 := Lib.hid (And.intro hbb hbc)
        clear hab hE2 hz2 h50 hE1 hcz B1 B2 g1 g2 O1 O2 hbb hbc hO1 hbd B1' hO2
        refine hK.out _ _ (fun _ => HF.out _ HB9.out.1) ?_
        clear hK Kx
        refine next_till 5 (by kernel_rfl) rfl (fun Kx hK => ?_)
        refine wp_append_run (.tmp 107) (.tmp 109) 23 rfl rfl rfl hrun1 ?_
        refine hK.out _ _ (fun _ => HF.out _ HB9.out.2) ?_
        clear hK Kx
        refine next_till 9 (by kernel_rfl) rfl (fun Kx hK => ?_)
        refine wp_append_run (.tmp 111) (.tmp 113) 23 rfl rfl rfl hrun2 ?_
        refine hK.out _ _ (fun _ => HF.out _ HX9.out.2.2.2.2) ?_
        clear hK Kx hrun1 hrun2
        have PT := rput_any Wd (H5.out.2.2.2.2.2.1.step (Step.of_below HX9.out.2.2.2.2 S')) HR.out.1 (kv := .slice a1 n1 c1) (vv := .slice a2 n2 c2) ⟨HX9.out.1, fun _ q hq hs => by have := HX9.out.2.2.1 q hq; have := H5.out.2.2.2.1.tr.lt q hs; omega⟩ ⟨HX9.out.2.1, fun _ q hq hs => by have := HX9.out.2.2.2.1 q hq; have := H5.out.2.2.2.1.tr.lt q hs; omega⟩ (fun q hq => Nat.lt_of_lt_of_le (H5.out.2.2.2.1.tr.lt q hq) HX9.out.2.2.2.2.size) HR.out.2
        refine next_till 10 (by kernel_rfl) rfl (fun Kx hK => ?_)
        go_simp
        refine PT.mono ?_
        rintro e wf ⟨v9, rfl, hv9, hb9⟩
        clear PT
        have hbf := HX9.out.2.2.2.2.trans (hb9.mono HX9.out.2.2.2.2.size)
        have H9 := Lib.hid (And.intro hv9 hbf)
        clear hv9 hb9 hbf
        refine hK.out _ _ (fun _ => HF.out _ H9.out.2) ?_
        clear hK Kx
        have hS := HF.out _ H9.out.2
        obtain ⟨b1, b2, b3, rfl⟩ : ∃ x y z, v9 = .slice x y z := by obtain ⟨x, y, e, _⟩ := H9.out.1.shape; exact ⟨_, _, _, e⟩
        refine take_till (i := 11) (some 8) (.int .i64 r) rfl rfl (by kernel_rfl) (by kernel_rfl) (by kernel_rfl) (by kernel_rfl) (by decide) (fun _ _ _ h => h) (by rfl) (fun W hW => ?_) hS ?_
        · have hx := HX.out W hW
          clear hW
          go_simp
        simp only [Act.put, List.setIfInBounds_toArray, List.set_cons_zero, List.set_cons_succ]
        refine take_till (i := 12) (some 9) (.slice b1 b2 b3) rfl rfl (by kernel_rfl) (by kernel_rfl) (by kernel_rfl) (by kernel_rfl) (by decide) (fun _ _ _ h => h) (by rfl) (fun W hW => ?_) hS ?_
        · have hx := HX.out W hW
          clear hW
          go_simp
        simp only [Act.put, List.setIfInBounds_toArray, List.set_cons_zero, List.set_cons_succ]
        refine take_till (i := 13) (some 10) (.bool true) rfl rfl (by kernel_rfl) (by kernel_rfl) (by kernel_rfl) (by kernel_rfl) (by decide) (fun _ _ _ h => h) (by rfl) (fun W hW => ?_) hS ?_
        · have hx := HX.out W hW
          clear hW
          go_simp
        simp only [Act.put, List.setIfInBounds_toArray, List.set_cons_zero, List.set_cons_succ]
        refine done_till (by kernel_rfl) ?_ _
        clear hS
        go_wp2
        go_ret3
        obtain ⟨st5, hf5, hc5, hd5, C5, ha5, hk5, hv5⟩ := H5.out
        exact ⟨_, _, D', ps', pgs', S', rfl, st5.bel H9.out.2, hf5, hc5, hd5.later H9.out.2, H9.out.1⟩
    · go_simp
      refine hK.out _ _ (fun _ => HF.out _ HD.out.2.2.2) ?_
      clear hK Kx
      refine next_till 2 (by kernel_rfl) rfl (fun Kx hK => ?_)
      go_simp
      have hab : Below (W0.alloc (.cells #[] 5)).heap.size (W0.alloc (.cells #[] 5)) ((W0.alloc (.cells #[] 5)).alloc (.cells #[] 5)) := (Below.refl _ _).alloc (Nat.le_refl _) _
      have hbb : Below w5.heap.size w5 ((W0.alloc (.cells #[] 5)).alloc (.cells #[] 5)) := HD.out.2.2.2.trans (hab.mono HD.out.2.2.2.size)
      have hE2 := ow_empty (W0.alloc (.cells #[] 5))
      rw [HD.out.2.1] at hE2
      have hz2 : ((W0.alloc (.cells #[] 5)).alloc (.cells #[] 5)).heap.size = W0.heap.size + 2 := by simp
      have h50 := HD.out.1.size
      obtain ⟨a1, n1, c1, Wc, hrun1, B1, g1, O1⟩ := copy_run (b := (W0.heap.size + 1)) (hE2) (H5.out.2.2.2.2.2.2.1.1.below hbb) HLL.out.1
      have hbc : Below w5.heap.size w5 Wc := hbb.trans ((only_grown g1).below (B := w5.heap.size) hbb.size fun q hq => by omega)
      have hE1 : Ow Wc W0.heap.size 5 (.slice (some ⟨W0.heap.size, 0, none⟩) 0 0) [] := Ow.grown ((ow_empty W0).below hab) g1 (.inr (by intro e; simp [Value.ownBlock] at e))
      obtain ⟨a2, n2, c2, Wd, hrun2, B2, g2, O2⟩ := copy_run (b := W0.heap.size) hE1 (H5.out.2.2.2.2.2.2.2.1.below hbc) HLL.out.2
      have hbd : Below w5.heap.size w5 Wd := hbc.trans ((only_grown g2).below (B := w5.heap.size) hbc.size fun q hq => by omega)
      have hcz := g1.size
      have hO1 : ∀ q, (Value.slice a1 n1 c1).ownBlock = some q → w5.heap.size ≤ q ∧ q ≠ W0.heap.size := fun q hq => by
        rcases O1 q hq with e | e <;> omega
      have B1' : Bs Wd (.slice a1 n1 c1) key := B1.only (only_grown g2) fun q hq e => (hO1 q hq).2 e
      have hO2 : ∀ q, (Value.slice a2 n2 c2).ownBlock = some q → w5.heap.size ≤ q := fun q hq => by
        rcases O2 q hq with e | e <;> omega
      have HX9 := Lib.hid (And.intro B1' (And.intro B2 (And.intro (fun q hq => (hO1 q hq).1) (And.intro hO2 hbd))))
      have HB9 := Lib.hid (And.intro hbb hbc)
      clear hab hE2 hz2 h50 hE1 hcz B1 B2 g1 g2 O1 O2 hbb hbc hO1 hbd B1' hO2
      refine hK.out _ _ (fun _ => HF.out _ HB9.out.1) ?_
      clear hK Kx
      refine next_till 5 (by kernel_rfl) rfl (fun Kx hK => ?_)
      refine wp_append_run (.tmp 107) (.tmp 109) 23 rfl rfl rfl hrun1 ?_
      refine hK.out _ _ (fun _ => HF.out _ HB9.out.2) ?_
      clear hK Kx
      refine next_till 9 (by kernel_rfl) rfl (fun Kx hK => ?_)
      refine wp_append_run (.tmp 111) (.tmp 113) 23 rfl rfl rfl hrun2 ?_
      refine hK.out _ _ (fun _ => HF.out _ HX9.out.2.2.2.2) ?_
      clear hK Kx hrun1 hrun2
      have PT := rput_any Wd (H5.out.2.2.2.2.2.1.step (Step.of_below HX9.out.2.2.2.2 S')) HR.out.1 (kv := .slice a1 n1 c1) (vv := .slice a2 n2 c2) ⟨HX9.out.1, fun _ q hq hs => by have := HX9.out.2.2.1 q hq; have := H5.out.2.2.2.1.tr.lt q hs; omega⟩ ⟨HX9.out.2.1, fun _ q hq hs => by have := HX9.out.2.2.2.1 q hq; have := H5.out.2.2.2.1.tr.lt q hs; omega⟩ (fun q hq => Nat.lt_of_lt_of_le (H5.out.2.2.2.1.tr.lt q hq) HX9.out.2.2.2.2.size) HR.out.2
      refine next_till 10 (by kernel_rfl) rfl (fun Kx hK => ?_)
      go_simp
      refine PT.mono ?_
      rintro e wf ⟨v9, rfl, hv9, hb9⟩
      clear PT
      have hbf := HX9.out.2.2.2.2.trans (hb9.mono HX9.out.2.2.2.2.size)
      have H9 := Lib.hid (And.intro hv9 hbf)
      clear hv9 hb9 hbf
      refine hK.out _ _ (fun _ => HF.out _ H9.out.2) ?_
      clear hK Kx
      have hS := HF.out _ H9.out.2
      obtain ⟨b1, b2, b3, rfl⟩ : ∃ x y z, v9 = .slice x y z := by obtain ⟨x, y, e, _⟩ := H9.out.1.shape; exact ⟨_, _, _, e⟩
      refine take_till (i := 11) (some 8) (.int .i64 r) rfl rfl (by kernel_rfl) (by kernel_rfl) (by kernel_rfl) (by kernel_rfl) (by decide) (fun _ _ _ h => h) (by rfl) (fun W hW => ?_) hS ?_
      · have hx := HX.out W hW
        clear hW
        go_simp
      simp only [Act.put, List.setIfInBounds_toArray, List.set_cons_zero, List.set_cons_succ]
      refine take_till (i := 12) (some 9) (.slice b1 b2 b3) rfl rfl (by kernel_rfl) (by kernel_rfl) (by kernel_rfl) (by kernel_rfl) (by decide) (fun _ _ _ h => h) (by rfl) (fun W hW => ?_) hS ?_
      · have hx := HX.out W hW
        clear hW
        go_simp
      simp only [Act.put, List.setIfInBounds_toArray, List.set_cons_zero, List.set_cons_succ]
      refine take_till (i := 13) (some 10) (.bool true) rfl rfl (by kernel_rfl) (by kernel_rfl) (by kernel_rfl) (by kernel_rfl) (by decide) (fun _ _ _ h => h) (by rfl) (fun W hW => ?_) hS ?_
      · have hx := HX.out W hW
        clear hW
        go_simp
      simp only [Act.put, List.setIfInBounds_toArray, List.set_cons_zero, List.set_cons_succ]
      refine done_till (by kernel_rfl) ?_ _
      clear hS
      go_wp2
      go_ret3
      obtain ⟨st5, hf5, hc5, hd5, C5, ha5, hk5, hv5⟩ := H5.out
      exact ⟨_, _, D', ps', pgs', S', rfl, st5.bel H9.out.2, hf5, hc5, hd5.later H9.out.2, H9.out.1⟩
  · have hmf : (mayK key && mayV val) = false := by simpa using hm
    clear hm
    have hsp : stepP prs ⟨false, key, val, sb⟩ = prs := by
      unfold stepP mayS
      rw [Bool.false_or, hmf]
      rfl
    rw [hsp]
    have CU := tput_arg (root := root) h2.tr hk2.1 hv2.1 (by rw [hmf]; simp)
    rw [hW2] at CU S1 S2 S3
    have HM := Lib.hid hmf
    clear h hav hkv hvv hb1 hb2 C1 C2 h2 hk2 hv2 hmf hsp han hkn hvn st2 hnS hW2
    go_enter Tryz.func12, Tryz.ntmps12
    go_wp2
    refine region_till 99 (fun W => W.cell? ⟨xb, 2, none⟩ = some (ptr tb) ∧ W.cell? ⟨w.heap.size, 1, none⟩ = some (.slice ka kn kc) ∧ W.cell? ⟨w.heap.size, 2, none⟩ = some (.slice va vn vc)) (by kernel_rfl) ⟨S1, S2, S3⟩ (fun hS => ?_)
    clear S1 S2 S3
    refine take_till (i := 0) (some 75) (ptr xb) rfl rfl (by kernel_rfl) (by kernel_rfl) (by kernel_rfl) (by kernel_rfl) (by decide) (fun _ _ _ h => h) (by rfl) (fun W hW => ?_) hS ?_
    · have hx := HX.out W hW
      clear hW
      go_simp
    simp only [Act.put, List.setIfInBounds_toArray, List.set_cons_zero, List.set_cons_succ]
    refine take_till (i := 1) (some 76) (ptr xb) rfl rfl (by kernel_rfl) (by kernel_rfl) (by kernel_rfl) (by kernel_rfl) (by decide) (fun _ _ _ h => h) (by rfl) (fun W hW => ?_) hS ?_
    · have hx := HX.out W hW
      clear hW
      go_simp
    simp only [Act.put, List.setIfInBounds_toArray, List.set_cons_zero, List.set_cons_succ]
    refine take_till (i := 2) (some 77) (.pointer (some ⟨xb, 2, none⟩)) rfl rfl (by kernel_rfl) (by kernel_rfl) (by kernel_rfl) (by kernel_rfl) (by decide) (fun _ _ _ h => h) (by rfl) (fun W hW => ?_) hS ?_
    · have hx := HX.out W hW
      clear hW
      go_simp
    simp only [Act.put, List.setIfInBounds_toArray, List.set_cons_zero, List.set_cons_succ]
    refine take_till (i := 3) (some 78) (ptr tb) rfl rfl (by kernel_rfl) (by kernel_rfl) (by kernel_rfl) (by kernel_rfl) (by decide) (fun _ _ _ h => h) (by rfl) (fun W hW => ?_) hS ?_
    · have hx := HX.out W hW
      clear hW
      go_simp
    simp only [Act.put, List.setIfInBounds_toArray, List.set_cons_zero, List.set_cons_succ]
    refine take_till (i := 4) (some 79) (.int .i64 root) rfl rfl (by kernel_rfl) (by kernel_rfl) (by kernel_rfl) (by kernel_rfl) (by decide) (fun _ _ _ h => h) (by rfl) (fun W hW => ?_) hS ?_
    · have hx := HX.out W hW
      clear hW
      go_simp
    simp only [Act.put, List.setIfInBounds_toArray, List.set_cons_zero, List.set_cons_succ]
    refine take_till (i := 5) (some 80) (.pointer (some ⟨w.heap.size, 1, none⟩)) rfl rfl (by kernel_rfl) (by kernel_rfl) (by kernel_rfl) (by kernel_rfl) (by decide) (fun _ _ _ h => h) (by rfl) (fun W hW => ?_) hS ?_
    · have hx := HX.out W hW
      clear hW
      go_simp
    simp only [Act.put, List.setIfInBounds_toArray, List.set_cons_zero, List.set_cons_succ]
    refine take_till (i := 6) (some 81) (.slice ka kn kc) rfl rfl (by kernel_rfl) (by kernel_rfl) (by kernel_rfl) (by kernel_rfl) (by decide) (fun _ _ _ h => h) (by rfl) (fun W hW => ?_) hS ?_
    · have hx := HX.out W hW
      clear hW
      go_simp
    simp only [Act.put, List.setIfInBounds_toArray, List.set_cons_zero, List.set_cons_succ]
    refine take_till (i := 7) (some 82) (.pointer (some ⟨w.heap.size, 2, none⟩)) rfl rfl (by kernel_rfl) (by kernel_rfl) (by kernel_rfl) (by kernel_rfl) (by decide) (fun _ _ _ h => h) (by rfl) (fun W hW => ?_) hS ?_
    · have hx := HX.out W hW
      clear hW
      go_simp
    simp only [Act.put, List.setIfInBounds_toArray, List.set_cons_zero, List.set_cons_succ]
    refine take_till (i := 8) (some 83) (.slice va vn vc) rfl rfl (by kernel_rfl) (by kernel_rfl) (by kernel_rfl) (by kernel_rfl) (by decide) (fun _ _ _ h => h) (by rfl) (fun W hW => ?_) hS ?_
    · have hx := HX.out W hW
      clear hW
      go_simp
    simp only [Act.put, List.setIfInBounds_toArray, List.set_cons_zero, List.set_cons_succ]
    refine next_till 9 (by kernel_rfl) rfl (fun Kx hK => ?_)
    go_simp
    refine CU.mono ?_
    rintro e w5 ⟨rfl, hb5⟩
    clear CU
    obtain ⟨h2, ha2, hk2, hv2, C2, hnS, st2, hfew⟩ := HH.out
    rw [← HW.out] at hb5
    have T1 : w5.cell? ⟨xb, 2, none⟩ = some (ptr tb) := (h2.later hb5).cel.cell 2
    have C5 := C2.below hb5 C2.lt
    have T2 : w5.cell? ⟨w.heap.size, 1, none⟩ = some (.slice ka kn kc) := C5.cell 1
    have T3 : w5.cell? ⟨w.heap.size, 2, none⟩ = some (.slice va vn vc) := C5.cell 2
    refine hK.out _ _ (fun _ => ⟨T1, T2, T3⟩) ?_
    clear hK Kx
    replace hS : w5.cell? ⟨xb, 2, none⟩ = some (ptr tb) ∧ w5.cell? ⟨w.heap.size, 1, none⟩ = some (.slice ka kn kc) ∧ w5.cell? ⟨w.heap.size, 2, none⟩ = some (.slice va vn vc) := ⟨T1, T2, T3⟩
    have MK := rmayKey_any w5 (hk2.step (Step.of_below hb5 S)).1
    have MV := rmayVal_any w5 (hv2.step (Step.of_below hb5 S)).1
    have H5 := Lib.hid (And.intro hb5 (And.intro h2 (And.intro ha2 st2)))
    clear h2 ha2 hk2 hv2 C2 hnS st2 hb5 C5 T1 T2 T3 hfew
    refine take_till (i := 10) (some 74) (.tuple #[.int .i64 0, err 1]) rfl rfl (by kernel_rfl) (by kernel_rfl) (by kernel_rfl) (by kernel_rfl) (by decide) (fun _ _ _ h => h) (by rfl) (fun W hW => ?_) hS ?_
    · have hx := HX.out W hW
      clear hW
      go_simp
    simp only [Act.put, List.setIfInBounds_toArray, List.set_cons_zero, List.set_cons_succ]
    refine take_till (i := 11) (some 85) (.int .i64 0) rfl rfl (by kernel_rfl) (by kernel_rfl) (by kernel_rfl) (by kernel_rfl) (by decide) (fun _ _ _ h => h) (by rfl) (fun W hW => ?_) hS ?_
    · have hx := HX.out W hW
      clear hW
      go_simp
    simp only [Act.put, List.setIfInBounds_toArray, List.set_cons_zero, List.set_cons_succ]
    refine take_till (i := 12) (some 86) (err 1) rfl rfl (by kernel_rfl) (by kernel_rfl) (by kernel_rfl) (by kernel_rfl) (by decide) (fun _ _ _ h => h) (by rfl) (fun W hW => ?_) hS ?_
    · have hx := HX.out W hW
      clear hW
      go_simp
    simp only [Act.put, List.setIfInBounds_toArray, List.set_cons_zero, List.set_cons_succ]
    refine take_till (i := 13) (some 16) (.int .i64 0) rfl rfl (by kernel_rfl) (by kernel_rfl) (by kernel_rfl) (by kernel_rfl) (by decide) (fun _ _ _ h => h) (by rfl) (fun W hW => ?_) hS ?_
    · have hx := HX.out W hW
      clear hW
      go_simp
    simp only [Act.put, List.setIfInBounds_toArray, List.set_cons_zero, List.set_cons_succ]
    refine take_till (i := 14) (some 17) (err 1) rfl rfl (by kernel_rfl) (by kernel_rfl) (by kernel_rfl) (by kernel_rfl) (by decide) (fun _ _ _ h => h) (by rfl) (fun W hW => ?_) hS ?_
    · have hx := HX.out W hW
      clear hW
      go_simp
    simp only [Act.put, List.setIfInBounds_toArray, List.set_cons_zero, List.set_cons_succ]
    refine done_till (by kernel_rfl) ?_ _
    obtain ⟨-, T2, T3⟩ := hS
    clear HX
    have hmf := HM.out
    rcases hmk : mayK key with _ | _
    · rw [hmk] at MK
      clear hmf hmk MV
      go_wp2_with fail
      refine MK.mono ?_
      rintro e w7 ⟨rfl, rfl⟩
      clear MK T2 T3
      go_wp2
      go_ret3
      obtain ⟨hb5, h2, ha2, st2⟩ := H5.out
      exact ⟨_, _, D, ps, pgs, S, rfl, st2.bel hb5, by omega, .inl ⟨rfl, rfl⟩, (h2.later hb5).more (by omega), ha2.step (Step.of_below hb5 S)⟩
    · rw [hmk, Bool.true_and] at hmf
      rw [hmk] at MK
      rw [hmf] at MV
      clear hmf hmk
      go_wp2_with fail
      refine MK.mono ?_
      rintro e w7 ⟨rfl, rfl⟩
      clear MK T2
      go_wp2_with fail
      refine MV.mono ?_
      rintro e w7 ⟨rfl, rfl⟩
      clear MV T3
      go_wp2
      go_ret3
      obtain ⟨hb5, h2, ha2, st2⟩ := H5.out
      exact ⟨_, _, D, ps, pgs, S, rfl, st2.bel hb5, by omega, .inl ⟨rfl, rfl⟩, (h2.later hb5).more (by omega), ha2.step (Step.of_below hb5 S)⟩
end
end Go.Proofs.YtgekeemhbnhelaaGreat
