/- A step that a statement does at a desk: a Put or a Cut of a key, and what the document's pairs become: its walk; condition: enough pages are free. -/
import Derived.Test.YtgekeemhbnhelaaGreatM39
namespace Go.Proofs.YtgekeemhbnhelaaGreat
open Go.RowKit

def mayS (s : Sp) : Bool := mayK s.key && (s.cut || mayV s.val)
/-- The pairs behind a step. -/
def stepP (prs : List Pr) (s : Sp) : List Pr := if mayS s = true then (if s.cut = true then cutP prs s.key else putP prs s.key s.val) else prs
/-- What a step leaves. -/
def Doer (w0 w : World) (xb tb db pb N n K : Nat) (D : Dv) (ps : List Pg) (S : Nat → Prop) (prs' : List Pr) (e : Ending) (w' : World) : Prop :=
  ∃ r av' D' ps' pgs' S', e = .returned (.tuple #[.int .i64 r, av', .bool true]) ∧ Step S w w' S' ∧ freeP ps ≤ freeP ps' + K ∧ Chg D ps D' ps' ∧ Dx w0 w' xb tb db pb N (n + K) D' ps' r prs' pgs' S' ∧ Rd kdPr w' S' av' prs'

section
variable {w0 w : World} {xb tb db pb N n K : Nat} {D : Dv} {ps : List Pg} {root : Int} {prs : List Pr} {pgs : List Nat} {S : Nat → Prop} {av kv vv : Value} {key val : Bytes} {sb : Bool}
set_option maxRecDepth 100000 in
set_option maxHeartbeats 8000000 in
theorem does_cut (h : Dx w0 w xb tb db pb N n D ps root prs pgs S) (hav : Rd kdPr w S av prs) (hkv : Bsf w S kv key) (hvv : Bsf w S vv val) (hK : ∀ lvl, 2 ^ lvl ≤ N + 1 → 2 * lvl + 3 ≤ K) (hfree : K ≤ freeP ps) (hn : n ≤ 4000000000) (hfew : prs.length ≤ 900000) :
    Calls Tryz.prog 12 #[ptr xb, .int .i64 root, av, .agg #[.bool true, kv, vv, .bool sb]] w (Doer w0 w xb tb db pb N n K D ps S (stepP prs ⟨true, key, val, sb⟩)) := by
  obtain ⟨ka, kc, rfl, _⟩ := hkv.1.shape
  obtain ⟨va, vc, rfl, _⟩ := hvv.1.shape
  obtain ⟨aa, ac, rfl, _⟩ := hav.shape
  obtain ⟨an, han⟩ : ∃ an, an = prs.length := ⟨_, rfl⟩
  obtain ⟨kn, hkn⟩ : ∃ kn, kn = key.length := ⟨_, rfl⟩
  obtain ⟨vn, hvn⟩ : ∃ vn, vn = val.length := ⟨_, rfl⟩
  rw [← han] at hav ⊢
  rw [← hkn] at hkv ⊢
  rw [← hvn] at hvv ⊢
  have hb1 : Below w.heap.size w (w.alloc (.cells #[.bool true, .slice ka kn kc, .slice va vn vc, .bool sb] 30)) := (Below.refl _ _).alloc (Nat.le_refl _) _
  have hb2 : Below w.heap.size w (w.alloc (.cells #[.bool true, .slice ka kn kc, .slice va vn vc, .bool sb] 30)).drew := below_drewN hb1 1
  have C1 := (Cel.new w #[.bool true, .slice ka kn kc, .slice va vn vc, .bool sb] 30)
  have C2 : Cel (w.alloc (.cells #[.bool true, .slice ka kn kc, .slice va vn vc, .bool sb] 30)).drew w.heap.size [.bool true, .slice ka kn kc, .slice va vn vc, .bool sb] 30 := C1
  obtain ⟨W2, hW2⟩ : ∃ W2, W2 = (w.alloc (.cells #[.bool true, .slice ka kn kc, .slice va vn vc, .bool sb] 30)).drew := ⟨_, rfl⟩
  rw [← hW2] at hb2 C2
  have st2 := Step.of_below hb2 S
  have h2 := h.later hb2
  have hk2 := hkv.step st2
  have hnS : ¬ S w.heap.size := fun hq => Nat.lt_irrefl _ (h.tr.lt _ hq)
  have q0 := C1.cell 0
  have HH := Lib.hid (And.intro h2 (And.intro (hav.step st2) (And.intro hk2 (And.intro C2 (And.intro hnS (And.intro st2 hfew))))))
  have S1 : W2.cell? ⟨xb, 2, none⟩ = some (ptr tb) := h2.cel.cell 2
  have S2 : W2.cell? ⟨w.heap.size, 1, none⟩ = some (.slice ka kn kc) := C2.cell 1
  have HX := Lib.hid (fun (W : World) (hW : W.cell? ⟨xb, 2, none⟩ = some (ptr tb) ∧ W.cell? ⟨w.heap.size, 1, none⟩ = some (.slice ka kn kc)) => hW)
  by_cases hm : mayK key = true
  · have hsp : stepP prs ⟨true, key, val, sb⟩ = cutP prs key := by unfold stepP mayS; simp [hm]
    rw [hsp]
    have CU := dx_cut h2 hk2 hm hK hfree hn
    have HM := Lib.hid hm
    rw [hW2] at CU S1 S2
    have HW := Lib.hid hW2
    clear h hav hkv hvv hb1 hb2 C1 C2 h2 hk2 hm hsp han hkn hvn st2 hnS hW2
    go_enter Tryz.func12, Tryz.ntmps12
    go_wp2
    refine region_till 99 (fun W => W.cell? ⟨xb, 2, none⟩ = some (ptr tb) ∧ W.cell? ⟨w.heap.size, 1, none⟩ = some (.slice ka kn kc)) (by kernel_rfl) ⟨S1, S2⟩ (fun hS => ?_)
    clear S1 S2
    refine take_till (i := 0) (some 21) (ptr xb) rfl rfl (by kernel_rfl) (by kernel_rfl) (by kernel_rfl) (by kernel_rfl) (by decide) (fun _ _ _ h => h) (by rfl) (fun W hW => ?_) hS ?_
    · have hx := HX.out W hW
      clear hW
      go_simp
    simp only [Act.put, List.setIfInBounds_toArray, List.set_cons_zero, List.set_cons_succ]
    refine take_till (i := 1) (some 22) (ptr xb) rfl rfl (by kernel_rfl) (by kernel_rfl) (by kernel_rfl) (by kernel_rfl) (by decide) (fun _ _ _ h => h) (by rfl) (fun W hW => ?_) hS ?_
    · have hx := HX.out W hW
      clear hW
      go_simp
    simp only [Act.put, List.setIfInBounds_toArray, List.set_cons_zero, List.set_cons_succ]
    refine take_till (i := 2) (some 23) (.pointer (some ⟨xb, 2, none⟩)) rfl rfl (by kernel_rfl) (by kernel_rfl) (by kernel_rfl) (by kernel_rfl) (by decide) (fun _ _ _ h => h) (by rfl) (fun W hW => ?_) hS ?_
    · have hx := HX.out W hW
      clear hW
      go_simp
    simp only [Act.put, List.setIfInBounds_toArray, List.set_cons_zero, List.set_cons_succ]
    refine take_till (i := 3) (some 24) (ptr tb) rfl rfl (by kernel_rfl) (by kernel_rfl) (by kernel_rfl) (by kernel_rfl) (by decide) (fun _ _ _ h => h) (by rfl) (fun W hW => ?_) hS ?_
    · have hx := HX.out W hW
      clear hW
      go_simp
    simp only [Act.put, List.setIfInBounds_toArray, List.set_cons_zero, List.set_cons_succ]
    refine take_till (i := 4) (some 25) (.int .i64 root) rfl rfl (by kernel_rfl) (by kernel_rfl) (by kernel_rfl) (by kernel_rfl) (by decide) (fun _ _ _ h => h) (by rfl) (fun W hW => ?_) hS ?_
    · have hx := HX.out W hW
      clear hW
      go_simp
    simp only [Act.put, List.setIfInBounds_toArray, List.set_cons_zero, List.set_cons_succ]
    refine take_till (i := 5) (some 26) (.pointer (some ⟨w.heap.size, 1, none⟩)) rfl rfl (by kernel_rfl) (by kernel_rfl) (by kernel_rfl) (by kernel_rfl) (by decide) (fun _ _ _ h => h) (by rfl) (fun W hW => ?_) hS ?_
    · have hx := HX.out W hW
      clear hW
      go_simp
    simp only [Act.put, List.setIfInBounds_toArray, List.set_cons_zero, List.set_cons_succ]
    refine take_till (i := 6) (some 27) (.slice ka kn kc) rfl rfl (by kernel_rfl) (by kernel_rfl) (by kernel_rfl) (by kernel_rfl) (by decide) (fun _ _ _ h => h) (by rfl) (fun W hW => ?_) hS ?_
    · have hx := HX.out W hW
      clear hW
      go_simp
    simp only [Act.put, List.setIfInBounds_toArray, List.set_cons_zero, List.set_cons_succ]
    refine next_till 7 (by kernel_rfl) rfl (fun Kx hK => ?_)
    go_simp
    refine CU.mono ?_
    rintro e w5 ⟨r, rfl, ⟨D', ps', pgs', S', st5, hf5, hc5, hd5⟩, hroot⟩
    clear CU
    obtain ⟨h2, ha2, hk2, C2, hnS, st2, hfew⟩ := HH.out
    rw [← HW.out] at st5
    have T1 : w5.cell? ⟨xb, 2, none⟩ = some (ptr tb) := hd5.cel.cell 2
    have C5 := C2.only st5.only hnS
    have T2 : w5.cell? ⟨w.heap.size, 1, none⟩ = some (.slice ka kn kc) := C5.cell 1
    refine hK.out _ _ (fun _ => ⟨T1, T2⟩) ?_
    clear hK Kx
    replace hS : w5.cell? ⟨xb, 2, none⟩ = some (ptr tb) ∧ w5.cell? ⟨w.heap.size, 1, none⟩ = some (.slice ka kn kc) := ⟨T1, T2⟩
    obtain ⟨lo, hlo⟩ : ∃ lo, lo = (lookP prs key).isSome := ⟨_, rfl⟩
    rw [← hlo] at hroot ⊢
    have G := rget_any w5 (ha2.step st5) (hk2.step st5).1
    rw [← hlo] at G
    have MK := fun W (hb : Below w5.heap.size w5 W) => rmayKey_any W ((hk2.step st5).1.below hb)
    rw [HM.out] at MK
    have CT := fun W (hb : Below w5.heap.size w5 W) => rcut_any W ((ha2.step st5).step (Step.of_below hb S')) ((hk2.step st5).1.below hb) (fun q hq => Nat.lt_of_lt_of_le (hd5.tr.lt q hq) hb.size) (by omega)
    have H5 := Lib.hid (And.intro st5 (And.intro hf5 (And.intro hc5 (And.intro hd5 (And.intro C5 (And.intro hroot st2))))))
    have HT := Lib.hid (And.intro MK CT)
    clear h2 ha2 hk2 C2 hnS st2 st5 hf5 hc5 hd5 C5 hroot hlo T1 T2 MK CT hfew
    refine take_till (i := 8) (some 20) (.tuple #[.int .i64 r, .bool lo, err 0]) rfl rfl (by kernel_rfl) (by kernel_rfl) (by kernel_rfl) (by kernel_rfl) (by decide) (fun _ _ _ h => h) (by rfl) (fun W hW => ?_) hS ?_
    · have hx := HX.out W hW
      clear hW
      go_simp
    simp only [Act.put, List.setIfInBounds_toArray, List.set_cons_zero, List.set_cons_succ]
    refine take_till (i := 9) (some 29) (.int .i64 r) rfl rfl (by kernel_rfl) (by kernel_rfl) (by kernel_rfl) (by kernel_rfl) (by decide) (fun _ _ _ h => h) (by rfl) (fun W hW => ?_) hS ?_
    · have hx := HX.out W hW
      clear hW
      go_simp
    simp only [Act.put, List.setIfInBounds_toArray, List.set_cons_zero, List.set_cons_succ]
    refine take_till (i := 10) (some 30) (.bool lo) rfl rfl (by kernel_rfl) (by kernel_rfl) (by kernel_rfl) (by kernel_rfl) (by decide) (fun _ _ _ h => h) (by rfl) (fun W hW => ?_) hS ?_
    · have hx := HX.out W hW
      clear hW
      go_simp
    simp only [Act.put, List.setIfInBounds_toArray, List.set_cons_zero, List.set_cons_succ]
    refine take_till (i := 11) (some 31) (err 0) rfl rfl (by kernel_rfl) (by kernel_rfl) (by kernel_rfl) (by kernel_rfl) (by decide) (fun _ _ _ h => h) (by rfl) (fun W hW => ?_) hS ?_
    · have hx := HX.out W hW
      clear hW
      go_simp
    simp only [Act.put, List.setIfInBounds_toArray, List.set_cons_zero, List.set_cons_succ]
    refine take_till (i := 12) (some 11) (.int .i64 r) rfl rfl (by kernel_rfl) (by kernel_rfl) (by kernel_rfl) (by kernel_rfl) (by decide) (fun _ _ _ h => h) (by rfl) (fun W hW => ?_) hS ?_
    · have hx := HX.out W hW
      clear hW
      go_simp
    simp only [Act.put, List.setIfInBounds_toArray, List.set_cons_zero, List.set_cons_succ]
    refine take_till (i := 13) (some 12) (.bool lo) rfl rfl (by kernel_rfl) (by kernel_rfl) (by kernel_rfl) (by kernel_rfl) (by decide) (fun _ _ _ h => h) (by rfl) (fun W hW => ?_) hS ?_
    · have hx := HX.out W hW
      clear hW
      go_simp
    simp only [Act.put, List.setIfInBounds_toArray, List.set_cons_zero, List.set_cons_succ]
    refine take_till (i := 14) (some 13) (err 0) rfl rfl (by kernel_rfl) (by kernel_rfl) (by kernel_rfl) (by kernel_rfl) (by decide) (fun _ _ _ h => h) (by rfl) (fun W hW => ?_) hS ?_
    · have hx := HX.out W hW
      clear hW
      go_simp
    simp only [Act.put, List.setIfInBounds_toArray, List.set_cons_zero, List.set_cons_succ]
    refine done_till (by kernel_rfl) ?_ _
    obtain ⟨-, T2⟩ := hS
    clear HX
    go_wp2_with fail
    refine G.mono ?_
    rintro e w6 ⟨v, rfl, -, hb6⟩
    clear G T2
    have M6 := HT.out.1 w6 hb6
    have T6 : w6.cell? ⟨w.heap.size, 1, none⟩ = some (.slice ka kn kc) := (H5.out.2.2.2.2.1.below hb6 H5.out.2.2.2.2.1.lt).cell 1
    have HB := Lib.hid hb6
    clear hb6
    go_wp2_with fail
    refine M6.mono ?_
    rintro e w7 ⟨rfl, rfl⟩
    clear M6
    have C6 := HT.out.2 w6 HB.out
    have hroot := H5.out.2.2.2.2.2.1
    rcases lo with _ | _
    · obtain rfl := hroot rfl
      clear hroot
      go_wp2_with fail
      refine C6.mono ?_
      rintro e w8 ⟨v8, rfl, hv8, hb8⟩
      clear C6 T6
      have H8 := Lib.hid (And.intro hv8 hb8)
      clear hv8 hb8
      go_wp2
      go_ret3
      obtain ⟨st5, hf5, hc5, hd5, C5, hroot, st2⟩ := H5.out
      have hbb := HB.out.trans (H8.out.2.mono HB.out.size)
      exact ⟨_, _, D', ps', pgs', S', rfl, (st2.trans st5).bel hbb, hf5, hc5, hd5.later hbb, H8.out.1⟩
    · clear hroot
      go_wp2_with fail
      refine C6.mono ?_
      rintro e w8 ⟨v8, rfl, hv8, hb8⟩
      clear C6 T6
      have H8 := Lib.hid (And.intro hv8 hb8)
      clear hv8 hb8
      go_wp2
      go_ret3
      obtain ⟨st5, hf5, hc5, hd5, C5, hroot, st2⟩ := H5.out
      have hbb := HB.out.trans (H8.out.2.mono HB.out.size)
      exact ⟨_, _, D', ps', pgs', S', rfl, (st2.trans st5).bel hbb, hf5, hc5, hd5.later hbb, H8.out.1⟩
  · have hmf : mayK key = false := by simpa using hm
    have hsp : stepP prs ⟨true, key, val, sb⟩ = prs := by unfold stepP mayS; simp [hmf]
    rw [hsp]
    have CU := tcut_arg (root := root) h2.tr hk2.1 (by rw [hmf]; simp)
    have HM := Lib.hid hmf
    rw [hW2] at CU S1 S2
    have HW := Lib.hid hW2
    clear h hav hkv hvv hb1 hb2 C1 C2 h2 hk2 hm hmf hsp han hkn hvn st2 hnS hW2
    go_enter Tryz.func12, Tryz.ntmps12
    go_wp2
    refine region_till 99 (fun W => W.cell? ⟨xb, 2, none⟩ = some (ptr tb) ∧ W.cell? ⟨w.heap.size, 1, none⟩ = some (.slice ka kn kc)) (by kernel_rfl) ⟨S1, S2⟩ (fun hS => ?_)
    clear S1 S2
    refine take_till (i := 0) (some 21) (ptr xb) rfl rfl (by kernel_rfl) (by kernel_rfl) (by kernel_rfl) (by kernel_rfl) (by decide) (fun _ _ _ h => h) (by rfl) (fun W hW => ?_) hS ?_
    · have hx := HX.out W hW
      clear hW
      go_simp
    simp only [Act.put, List.setIfInBounds_toArray, List.set_cons_zero, List.set_cons_succ]
    refine take_till (i := 1) (some 22) (ptr xb) rfl rfl (by kernel_rfl) (by kernel_rfl) (by kernel_rfl) (by kernel_rfl) (by decide) (fun _ _ _ h => h) (by rfl) (fun W hW => ?_) hS ?_
    · have hx := HX.out W hW
      clear hW
      go_simp
    simp only [Act.put, List.setIfInBounds_toArray, List.set_cons_zero, List.set_cons_succ]
    refine take_till (i := 2) (some 23) (.pointer (some ⟨xb, 2, none⟩)) rfl rfl (by kernel_rfl) (by kernel_rfl) (by kernel_rfl) (by kernel_rfl) (by decide) (fun _ _ _ h => h) (by rfl) (fun W hW => ?_) hS ?_
    · have hx := HX.out W hW
      clear hW
      go_simp
    simp only [Act.put, List.setIfInBounds_toArray, List.set_cons_zero, List.set_cons_succ]
    refine take_till (i := 3) (some 24) (ptr tb) rfl rfl (by kernel_rfl) (by kernel_rfl) (by kernel_rfl) (by kernel_rfl) (by decide) (fun _ _ _ h => h) (by rfl) (fun W hW => ?_) hS ?_
    · have hx := HX.out W hW
      clear hW
      go_simp
    simp only [Act.put, List.setIfInBounds_toArray, List.set_cons_zero, List.set_cons_succ]
    refine take_till (i := 4) (some 25) (.int .i64 root) rfl rfl (by kernel_rfl) (by kernel_rfl) (by kernel_rfl) (by kernel_rfl) (by decide) (fun _ _ _ h => h) (by rfl) (fun W hW => ?_) hS ?_
    · have hx := HX.out W hW
      clear hW
      go_simp
    simp only [Act.put, List.setIfInBounds_toArray, List.set_cons_zero, List.set_cons_succ]
    refine take_till (i := 5) (some 26) (.pointer (some ⟨w.heap.size, 1, none⟩)) rfl rfl (by kernel_rfl) (by kernel_rfl) (by kernel_rfl) (by kernel_rfl) (by decide) (fun _ _ _ h => h) (by rfl) (fun W hW => ?_) hS ?_
    · have hx := HX.out W hW
      clear hW
      go_simp
    simp only [Act.put, List.setIfInBounds_toArray, List.set_cons_zero, List.set_cons_succ]
    refine take_till (i := 6) (some 27) (.slice ka kn kc) rfl rfl (by kernel_rfl) (by kernel_rfl) (by kernel_rfl) (by kernel_rfl) (by decide) (fun _ _ _ h => h) (by rfl) (fun W hW => ?_) hS ?_
    · have hx := HX.out W hW
      clear hW
      go_simp
    simp only [Act.put, List.setIfInBounds_toArray, List.set_cons_zero, List.set_cons_succ]
    refine next_till 7 (by kernel_rfl) rfl (fun Kx hK => ?_)
    go_simp
    refine CU.mono ?_
    rintro e w5 ⟨rfl, hb5⟩
    clear CU
    obtain ⟨h2, ha2, hk2, C2, hnS, st2, hfew⟩ := HH.out
    rw [← HW.out] at hb5
    have T1 : w5.cell? ⟨xb, 2, none⟩ = some (ptr tb) := (h2.later hb5).cel.cell 2
    have C5 := C2.below hb5 C2.lt
    have T2 : w5.cell? ⟨w.heap.size, 1, none⟩ = some (.slice ka kn kc) := C5.cell 1
    refine hK.out _ _ (fun _ => ⟨T1, T2⟩) ?_
    clear hK Kx
    replace hS : w5.cell? ⟨xb, 2, none⟩ = some (ptr tb) ∧ w5.cell? ⟨w.heap.size, 1, none⟩ = some (.slice ka kn kc) := ⟨T1, T2⟩
    have G := rget_any w5 (ha2.step (Step.of_below hb5 S)) (hk2.step (Step.of_below hb5 S)).1
    have MK := fun W (hb : Below w5.heap.size w5 W) => rmayKey_any W ((hk2.step (Step.of_below hb5 S)).1.below hb)
    rw [HM.out] at MK
    obtain ⟨lo, hlo⟩ : ∃ lo, lo = (lookP prs key).isSome := ⟨_, rfl⟩
    rw [← hlo] at G
    have H5 := Lib.hid (And.intro hb5 (And.intro C5 (And.intro h2 (And.intro ha2 st2))))
    have HT := Lib.hid MK
    clear h2 ha2 hk2 C2 hnS st2 hb5 C5 hlo T1 T2 MK hfew
    refine take_till (i := 8) (some 20) (.tuple #[.int .i64 0, .bool false, err 1]) rfl rfl (by kernel_rfl) (by kernel_rfl) (by kernel_rfl) (by kernel_rfl) (by decide) (fun _ _ _ h => h) (by rfl) (fun W hW => ?_) hS ?_
    · have hx := HX.out W hW
      clear hW
      go_simp
    simp only [Act.put, List.setIfInBounds_toArray, List.set_cons_zero, List.set_cons_succ]
    refine take_till (i := 9) (some 29) (.int .i64 0) rfl rfl (by kernel_rfl) (by kernel_rfl) (by kernel_rfl) (by kernel_rfl) (by decide) (fun _ _ _ h => h) (by rfl) (fun W hW => ?_) hS ?_
    · have hx := HX.out W hW
      clear hW
      go_simp
    simp only [Act.put, List.setIfInBounds_toArray, List.set_cons_zero, List.set_cons_succ]
    refine take_till (i := 10) (some 30) (.bool false) rfl rfl (by kernel_rfl) (by kernel_rfl) (by kernel_rfl) (by kernel_rfl) (by decide) (fun _ _ _ h => h) (by rfl) (fun W hW => ?_) hS ?_
    · have hx := HX.out W hW
      clear hW
      go_simp
    simp only [Act.put, List.setIfInBounds_toArray, List.set_cons_zero, List.set_cons_succ]
    refine take_till (i := 11) (some 31) (err 1) rfl rfl (by kernel_rfl) (by kernel_rfl) (by kernel_rfl) (by kernel_rfl) (by decide) (fun _ _ _ h => h) (by rfl) (fun W hW => ?_) hS ?_
    · have hx := HX.out W hW
      clear hW
      go_simp
    simp only [Act.put, List.setIfInBounds_toArray, List.set_cons_zero, List.set_cons_succ]
    refine take_till (i := 12) (some 11) (.int .i64 0) rfl rfl (by kernel_rfl) (by kernel_rfl) (by kernel_rfl) (by kernel_rfl) (by decide) (fun _ _ _ h => h) (by rfl) (fun W hW => ?_) hS ?_
    · have hx := HX.out W hW
      clear hW
      go_simp
    simp only [Act.put, List.setIfInBounds_toArray, List.set_cons_zero, List.set_cons_succ]
    refine take_till (i := 13) (some 12) (.bool false) rfl rfl (by kernel_rfl) (by kernel_rfl) (by kernel_rfl) (by kernel_rfl) (by decide) (fun _ _ _ h => h) (by rfl) (fun W hW => ?_) hS ?_
    · have hx := HX.out W hW
      clear hW
      go_simp
    simp only [Act.put, List.setIfInBounds_toArray, List.set_cons_zero, List.set_cons_succ]
    refine take_till (i := 14) (some 13) (err 1) rfl rfl (by kernel_rfl) (by kernel_rfl) (by kernel_rfl) (by kernel_rfl) (by decide) (fun _ _ _ h => h) (by rfl) (fun W hW => ?_) hS ?_
    · have hx := HX.out W hW
      clear hW
      go_simp
    simp only [Act.put, List.setIfInBounds_toArray, List.set_cons_zero, List.set_cons_succ]
    refine done_till (by kernel_rfl) ?_ _
    obtain ⟨-, T2⟩ := hS
    clear HX
    go_wp2_with fail
    refine G.mono ?_
    rintro e w6 ⟨v, rfl, -, hb6⟩
    clear G T2
    have M6 := HT.out w6 hb6
    have T6 : w6.cell? ⟨w.heap.size, 1, none⟩ = some (.slice ka kn kc) := (H5.out.2.1.below hb6 H5.out.2.1.lt).cell 1
    have HB := Lib.hid hb6
    clear hb6
    go_wp2_with fail
    refine M6.mono ?_
    rintro e w7 ⟨rfl, rfl⟩
    clear M6 T6
    go_wp2
    go_ret3
    obtain ⟨hb5, C5, h2, ha2, st2⟩ := H5.out
    have hbb := hb5.trans (HB.out.mono hb5.size)
    exact ⟨_, _, D, ps, pgs, S, rfl, st2.bel hbb, by omega, .inl ⟨rfl, rfl⟩, (h2.later hbb).more (by omega), ha2.step (Step.of_below hbb S)⟩
end
end Go.Proofs.YtgekeemhbnhelaaGreat
