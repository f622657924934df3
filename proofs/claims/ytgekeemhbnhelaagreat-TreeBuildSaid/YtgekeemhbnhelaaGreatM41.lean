/- The anchor of the statements of layer 7 (the chapter's examples): it answers true and writes nothing that was there; no condition. -/
import Derived.Test.YtgekeemhbnhelaaGreatM33
namespace Go.Proofs.YtgekeemhbnhelaaGreat
open Go.RowKit

theorem k40 : ∀ lvl, 2 ^ lvl ≤ 40 + 1 → 2 * lvl + 3 ≤ 13 := fun lvl h => by
  rcases Nat.lt_or_ge lvl 6 with h1 | h1
  · omega
  · have : 2 ^ 6 ≤ 2 ^ lvl := Nat.pow_le_pow_right (by omega) h1
    omega
set_option maxRecDepth 100000 in
set_option maxHeartbeats 16000000 in
theorem tworks_any (w : World) : Calls Tryz.prog 9 #[] w (Yes w) := by
  have O := desk_any 40 (by omega) (by omega) w
  go_enter Tryz.func9, Tryz.ntmps9
  go_wp2_with fail
  refine O.mono ?_
  rintro e w1 ⟨xb, tb, rfl, hd1⟩
  clear O
  have hf1 : freeP (freshP 40) = 40 := by decide
  have HF1 := Lib.hid hf1
  clear hf1
  obtain ⟨Sx, hSx⟩ : ∃ Sx : World → Prop, ∀ W, Sx W ↔ W.cell? ⟨xb, 2, none⟩ = some (ptr tb) := ⟨_, fun _ => Iff.rfl⟩
  have HX := Lib.hid (fun (W : World) (hW : Sx W) => (hSx W).1 hW)
  have hD : Sx w1.drew := (hSx _).2 hd1.tree
  have HS := Lib.hid hSx
  have HD1 := Lib.hid hd1
  clear hSx hd1
  go_wp2_with fail
  refine region_till 99 Sx (by kernel_rfl) hD (fun hS => ?_)
  refine take_till (i := 0) (some 20) (ptr xb) rfl rfl (by kernel_rfl) (by kernel_rfl) (by kernel_rfl) (by kernel_rfl) (by decide) (fun _ _ _ h => h) (by rfl) (fun W hW => ?_) hS ?_
  · have hx := HX.out W hW
    clear hW
    go_simp
  simp only [Act.put, List.setIfInBounds_toArray, List.set_cons_zero, List.set_cons_succ]
  refine take_till (i := 1) (some 21) (ptr xb) rfl rfl (by kernel_rfl) (by kernel_rfl) (by kernel_rfl) (by kernel_rfl) (by decide) (fun _ _ _ h => h) (by rfl) (fun W hW => ?_) hS ?_
  · have hx := HX.out W hW
    clear hW
    go_simp
  simp only [Act.put, List.setIfInBounds_toArray, List.set_cons_zero, List.set_cons_succ]
  refine take_till (i := 2) (some 22) (.pointer (some ⟨xb, 2, none⟩)) rfl rfl (by kernel_rfl) (by kernel_rfl) (by kernel_rfl) (by kernel_rfl) (by decide) (fun _ _ _ h => h) (by rfl) (fun W hW => ?_) hS ?_
  · have hx := HX.out W hW
    clear hW
    go_simp
  simp only [Act.put, List.setIfInBounds_toArray, List.set_cons_zero, List.set_cons_succ]
  refine take_till (i := 3) (some 23) (ptr tb) rfl rfl (by kernel_rfl) (by kernel_rfl) (by kernel_rfl) (by kernel_rfl) (by decide) (fun _ _ _ h => h) (by rfl) (fun W hW => ?_) hS ?_
  · have hx := HX.out W hW
    clear hW
    go_simp
  simp only [Act.put, List.setIfInBounds_toArray, List.set_cons_zero, List.set_cons_succ]
  have hc0 : Below w1.heap.size w1 w1.drew := (Below.refl _ _).drew
  have B0 := bl_any 97 w1.drew
  refine next_till 4 (by kernel_rfl) rfl (fun K hK => ?_)
  go_simp
  refine B0.mono ?_
  rintro e v0 ⟨kv0, rfl, hk0, hb0, hq0⟩
  have hc1 := hc0.trans (hb0.mono hc0.size)
  have hS0 : Sx v0 := (HS.out _).2 ((HD1.out.later hc1).tree)
  refine hK.out _ _ (fun _ => hS0) ?_
  clear hK K B0
  have B1 := bl_any 49 v0
  refine next_till 5 (by kernel_rfl) rfl (fun K hK => ?_)
  go_simp
  refine B1.mono ?_
  rintro e v1 ⟨kv1, rfl, hk1, hb1, hq1⟩
  have hc2 := hc1.trans (hb1.mono hc1.size)
  have hS1 : Sx v1 := (HS.out _).2 ((HD1.out.later hc2).tree)
  refine hK.out _ _ (fun _ => hS1) ?_
  clear hK K B1
  have hk0' := hk0.below hb1
  have C := dk_put HD1.out hc2 hk0' (fun q hq => .inl (by have h8 := hq0 q hq; have h9 := hc0.size; omega)) hk1 (fun q hq => .inl (by have h8 := hq1 q hq; have h9 := hc1.size; omega)) (by decide) (by decide) k40 (by rw [HF1.out]; omega) (by omega)
  refine next_till 6 (by kernel_rfl) rfl (fun K hK => ?_)
  go_simp
  refine C.mono ?_
  rintro e w2 ⟨r, ps2, rfl, hd2, hf2⟩
  have hT2 : Sx w2 := (HS.out _).2 hd2.tree
  refine hK.out _ _ (fun _ => hT2) ?_
  clear hK K C hS0 hS1 hk0 hk1 hk0' hb0 hb1 hq0 hq1 hc0 hc1 hc2
  rw [HF1.out] at hf2
  have e2 : putP [] [97] [49] = [([97], [49])] := rfl
  rw [e2] at hd2
  clear e2
  have HF2 := Lib.hid hf2
  clear hf2
  clear hS
  have hS := hT2
  refine take_till (i := 7) (some 19) (.tuple #[.int .i64 r, err 0]) rfl rfl (by kernel_rfl) (by kernel_rfl) (by kernel_rfl) (by kernel_rfl) (by decide) (fun _ _ _ h => h) (by rfl) (fun W hW => ?_) hS ?_
  · have hx := HX.out W hW
    clear hW
    go_simp
  simp only [Act.put, List.setIfInBounds_toArray, List.set_cons_zero, List.set_cons_succ]
  refine take_till (i := 8) (some 27) (.int .i64 r) rfl rfl (by kernel_rfl) (by kernel_rfl) (by kernel_rfl) (by kernel_rfl) (by decide) (fun _ _ _ h => h) (by rfl) (fun W hW => ?_) hS ?_
  · have hx := HX.out W hW
    clear hW
    go_simp
  simp only [Act.put, List.setIfInBounds_toArray, List.set_cons_zero, List.set_cons_succ]
  refine take_till (i := 9) (some 28) (err 0) rfl rfl (by kernel_rfl) (by kernel_rfl) (by kernel_rfl) (by kernel_rfl) (by decide) (fun _ _ _ h => h) (by rfl) (fun W hW => ?_) hS ?_
  · have hx := HX.out W hW
    clear hW
    go_simp
  simp only [Act.put, List.setIfInBounds_toArray, List.set_cons_zero, List.set_cons_succ]
  refine next_till 10 (by kernel_rfl) rfl (fun K hK => ?_)
  go_simp
  refine hK.out _ _ (fun _ => hT2) ?_
  clear hK K
  refine next_till 11 (by kernel_rfl) rfl (fun K hK => ?_)
  go_simp
  refine hK.out _ _ (fun _ => hT2) ?_
  clear hK K
  refine done_till (by kernel_rfl) ?_ _
  clear hT2 hS hD HX HS Sx
  obtain ⟨Sx, hSx⟩ : ∃ Sx : World → Prop, ∀ W, Sx W ↔ W.cell? ⟨xb, 2, none⟩ = some (ptr tb) := ⟨_, fun _ => Iff.rfl⟩
  have HX := Lib.hid (fun (W : World) (hW : Sx W) => (hSx W).1 hW)
  have hD : Sx w2.drew := (hSx _).2 hd2.tree
  have HS := Lib.hid hSx
  have HD2 := Lib.hid hd2
  clear hSx hd2
  go_wp2_with fail
  refine region_till 99 Sx (by kernel_rfl) hD (fun hS => ?_)
  refine take_till (i := 0) (some 30) (ptr xb) rfl rfl (by kernel_rfl) (by kernel_rfl) (by kernel_rfl) (by kernel_rfl) (by decide) (fun _ _ _ h => h) (by rfl) (fun W hW => ?_) hS ?_
  · have hx := HX.out W hW
    clear hW
    go_simp
  simp only [Act.put, List.setIfInBounds_toArray, List.set_cons_zero, List.set_cons_succ]
  refine take_till (i := 1) (some 31) (ptr xb) rfl rfl (by kernel_rfl) (by kernel_rfl) (by kernel_rfl) (by kernel_rfl) (by decide) (fun _ _ _ h => h) (by rfl) (fun W hW => ?_) hS ?_
  · have hx := HX.out W hW
    clear hW
    go_simp
  simp only [Act.put, List.setIfInBounds_toArray, List.set_cons_zero, List.set_cons_succ]
  refine take_till (i := 2) (some 32) (.pointer (some ⟨xb, 2, none⟩)) rfl rfl (by kernel_rfl) (by kernel_rfl) (by kernel_rfl) (by kernel_rfl) (by decide) (fun _ _ _ h => h) (by rfl) (fun W hW => ?_) hS ?_
  · have hx := HX.out W hW
    clear hW
    go_simp
  simp only [Act.put, List.setIfInBounds_toArray, List.set_cons_zero, List.set_cons_succ]
  refine take_till (i := 3) (some 33) (ptr tb) rfl rfl (by kernel_rfl) (by kernel_rfl) (by kernel_rfl) (by kernel_rfl) (by decide) (fun _ _ _ h => h) (by rfl) (fun W hW => ?_) hS ?_
  · have hx := HX.out W hW
    clear hW
    go_simp
  simp only [Act.put, List.setIfInBounds_toArray, List.set_cons_zero, List.set_cons_succ]
  refine take_till (i := 4) (some 34) (.int .i64 r) rfl rfl (by kernel_rfl) (by kernel_rfl) (by kernel_rfl) (by kernel_rfl) (by decide) (fun _ _ _ h => h) (by rfl) (fun W hW => ?_) hS ?_
  · have hx := HX.out W hW
    clear hW
    go_simp
  simp only [Act.put, List.setIfInBounds_toArray, List.set_cons_zero, List.set_cons_succ]
  have hc0 : Below w2.heap.size w2 w2.drew := (Below.refl _ _).drew
  have B0 := bl_any 97 w2.drew
  refine next_till 5 (by kernel_rfl) rfl (fun K hK => ?_)
  go_simp
  refine B0.mono ?_
  rintro e v0 ⟨kv0, rfl, hk0, hb0, hq0⟩
  have hc1 := hc0.trans (hb0.mono hc0.size)
  have hS0 : Sx v0 := (HS.out _).2 ((HD2.out.later hc1).tree)
  refine hK.out _ _ (fun _ => hS0) ?_
  clear hK K B0
  have C := dk_get HD2.out hc1 hk0 (fun q hq => .inl (by have h8 := hq0 q hq; have h9 := hc0.size; omega)) (by decide)
  refine next_till 6 (by kernel_rfl) rfl (fun K hK => ?_)
  go_simp
  refine C.mono ?_
  rintro e w3 ⟨gv, rfl, hgv, hbg, hd3⟩
  have hT3 : Sx w3 := (HS.out _).2 hd3.tree
  refine hK.out _ _ (fun _ => hT3) ?_
  clear hK K C hS0 hk0 hb0 hq0 hc0 hc1 hbg
  have e3 : lookP [(([97] : Bytes), ([49] : Bytes))] [97] = some [49] := by decide
  rw [e3] at hgv hd3
  replace hgv : Bs w3 gv [49] := hgv
  rw [e3]
  obtain ⟨ga, gc, rfl, _⟩ := hgv.shape
  have HGV := Lib.hid hgv
  clear hgv e3
  clear hS
  have hS := hT3
  refine take_till (i := 7) (some 29) (.tuple #[.slice ga 1 gc, .bool true, err 0]) rfl rfl (by kernel_rfl) (by kernel_rfl) (by kernel_rfl) (by kernel_rfl) (by decide) (fun _ _ _ h => h) (by rfl) (fun W hW => ?_) hS ?_
  · have hx := HX.out W hW
    clear hW
    go_simp
  simp only [Act.put, List.setIfInBounds_toArray, List.set_cons_zero, List.set_cons_succ]
  refine take_till (i := 8) (some 37) (.slice ga 1 gc) rfl rfl (by kernel_rfl) (by kernel_rfl) (by kernel_rfl) (by kernel_rfl) (by decide) (fun _ _ _ h => h) (by rfl) (fun W hW => ?_) hS ?_
  · have hx := HX.out W hW
    clear hW
    go_simp
  simp only [Act.put, List.setIfInBounds_toArray, List.set_cons_zero, List.set_cons_succ]
  refine take_till (i := 9) (some 38) (.bool true) rfl rfl (by kernel_rfl) (by kernel_rfl) (by kernel_rfl) (by kernel_rfl) (by decide) (fun _ _ _ h => h) (by rfl) (fun W hW => ?_) hS ?_
  · have hx := HX.out W hW
    clear hW
    go_simp
  simp only [Act.put, List.setIfInBounds_toArray, List.set_cons_zero, List.set_cons_succ]
  refine take_till (i := 10) (some 39) (err 0) rfl rfl (by kernel_rfl) (by kernel_rfl) (by kernel_rfl) (by kernel_rfl) (by decide) (fun _ _ _ h => h) (by rfl) (fun W hW => ?_) hS ?_
  · have hx := HX.out W hW
    clear hW
    go_simp
  simp only [Act.put, List.setIfInBounds_toArray, List.set_cons_zero, List.set_cons_succ]
  refine next_till 11 (by kernel_rfl) rfl (fun K hK => ?_)
  go_simp
  refine hK.out _ _ (fun _ => hT3) ?_
  clear hK K
  refine next_till 12 (by kernel_rfl) rfl (fun K hK => ?_)
  go_simp
  refine hK.out _ _ (fun _ => hT3) ?_
  clear hK K
  refine next_till 13 (by kernel_rfl) rfl (fun K hK => ?_)
  go_simp
  refine hK.out _ _ (fun _ => hT3) ?_
  clear hK K
  refine done_till (by kernel_rfl) ?_ _
  clear hT3 hS hD HX HS Sx
  obtain ⟨Sx, hSx⟩ : ∃ Sx : World → Prop, ∀ W, Sx W ↔ W.cell? ⟨xb, 2, none⟩ = some (ptr tb) := ⟨_, fun _ => Iff.rfl⟩
  have HX := Lib.hid (fun (W : World) (hW : Sx W) => (hSx W).1 hW)
  have hD : Sx w3.drew := (hSx _).2 hd3.tree
  have HS := Lib.hid hSx
  have HD3 := Lib.hid hd3
  clear hSx hd3
  go_wp2_with fail
  refine region_till 99 Sx (by kernel_rfl) hD (fun hS => ?_)
  refine take_till (i := 0) (some 41) (ptr xb) rfl rfl (by kernel_rfl) (by kernel_rfl) (by kernel_rfl) (by kernel_rfl) (by decide) (fun _ _ _ h => h) (by rfl) (fun W hW => ?_) hS ?_
  · have hx := HX.out W hW
    clear hW
    go_simp
  simp only [Act.put, List.setIfInBounds_toArray, List.set_cons_zero, List.set_cons_succ]
  refine take_till (i := 1) (some 42) (ptr xb) rfl rfl (by kernel_rfl) (by kernel_rfl) (by kernel_rfl) (by kernel_rfl) (by decide) (fun _ _ _ h => h) (by rfl) (fun W hW => ?_) hS ?_
  · have hx := HX.out W hW
    clear hW
    go_simp
  simp only [Act.put, List.setIfInBounds_toArray, List.set_cons_zero, List.set_cons_succ]
  refine take_till (i := 2) (some 43) (.pointer (some ⟨xb, 2, none⟩)) rfl rfl (by kernel_rfl) (by kernel_rfl) (by kernel_rfl) (by kernel_rfl) (by decide) (fun _ _ _ h => h) (by rfl) (fun W hW => ?_) hS ?_
  · have hx := HX.out W hW
    clear hW
    go_simp
  simp only [Act.put, List.setIfInBounds_toArray, List.set_cons_zero, List.set_cons_succ]
  refine take_till (i := 3) (some 44) (ptr tb) rfl rfl (by kernel_rfl) (by kernel_rfl) (by kernel_rfl) (by kernel_rfl) (by decide) (fun _ _ _ h => h) (by rfl) (fun W hW => ?_) hS ?_
  · have hx := HX.out W hW
    clear hW
    go_simp
  simp only [Act.put, List.setIfInBounds_toArray, List.set_cons_zero, List.set_cons_succ]
  refine take_till (i := 4) (some 45) (.int .i64 r) rfl rfl (by kernel_rfl) (by kernel_rfl) (by kernel_rfl) (by kernel_rfl) (by decide) (fun _ _ _ h => h) (by rfl) (fun W hW => ?_) hS ?_
  · have hx := HX.out W hW
    clear hW
    go_simp
  simp only [Act.put, List.setIfInBounds_toArray, List.set_cons_zero, List.set_cons_succ]
  have hc0 : Below w3.heap.size w3 w3.drew := (Below.refl _ _).drew
  have B0 := bl_any 98 w3.drew
  refine next_till 5 (by kernel_rfl) rfl (fun K hK => ?_)
  go_simp
  refine B0.mono ?_
  rintro e v0 ⟨kv0, rfl, hk0, hb0, hq0⟩
  have hc1 := hc0.trans (hb0.mono hc0.size)
  have hS0 : Sx v0 := (HS.out _).2 ((HD3.out.later hc1).tree)
  refine hK.out _ _ (fun _ => hS0) ?_
  clear hK K B0
  have C := dk_get HD3.out hc1 hk0 (fun q hq => .inl (by have h8 := hq0 q hq; have h9 := hc0.size; omega)) (by decide)
  refine next_till 6 (by kernel_rfl) rfl (fun K hK => ?_)
  go_simp
  refine C.mono ?_
  rintro e w4 ⟨gv2, rfl, hgv2, hbg, hd4⟩
  have hT4 : Sx w4 := (HS.out _).2 hd4.tree
  refine hK.out _ _ (fun _ => hT4) ?_
  clear hK K C hS0 hk0 hb0 hq0 hc0 hc1 hbg hgv2
  have e3 : lookP [(([97] : Bytes), ([49] : Bytes))] [98] = none := by decide
  rw [e3]
  clear e3
  obtain ⟨gv2', hgv2'⟩ : ∃ x, x = gv2 := ⟨_, rfl⟩
  clear hgv2'
  clear hS
  have hS := hT4
  refine take_till (i := 7) (some 40) (.tuple #[gv2, .bool false, err 0]) rfl rfl (by kernel_rfl) (by kernel_rfl) (by kernel_rfl) (by kernel_rfl) (by decide) (fun _ _ _ h => h) (by rfl) (fun W hW => ?_) hS ?_
  · have hx := HX.out W hW
    clear hW
    go_simp
  simp only [Act.put, List.setIfInBounds_toArray, List.set_cons_zero, List.set_cons_succ]
  refine take_till (i := 8) (some 48) (gv2) rfl rfl (by kernel_rfl) (by kernel_rfl) (by kernel_rfl) (by kernel_rfl) (by decide) (fun _ _ _ h => h) (by rfl) (fun W hW => ?_) hS ?_
  · have hx := HX.out W hW
    clear hW
    go_simp
  simp only [Act.put, List.setIfInBounds_toArray, List.set_cons_zero, List.set_cons_succ]
  refine take_till (i := 9) (some 49) (.bool false) rfl rfl (by kernel_rfl) (by kernel_rfl) (by kernel_rfl) (by kernel_rfl) (by decide) (fun _ _ _ h => h) (by rfl) (fun W hW => ?_) hS ?_
  · have hx := HX.out W hW
    clear hW
    go_simp
  simp only [Act.put, List.setIfInBounds_toArray, List.set_cons_zero, List.set_cons_succ]
  refine take_till (i := 10) (some 50) (err 0) rfl rfl (by kernel_rfl) (by kernel_rfl) (by kernel_rfl) (by kernel_rfl) (by decide) (fun _ _ _ h => h) (by rfl) (fun W hW => ?_) hS ?_
  · have hx := HX.out W hW
    clear hW
    go_simp
  simp only [Act.put, List.setIfInBounds_toArray, List.set_cons_zero, List.set_cons_succ]
  refine next_till 11 (by kernel_rfl) rfl (fun K hK => ?_)
  go_simp
  refine hK.out _ _ (fun _ => hT4) ?_
  clear hK K
  refine next_till 12 (by kernel_rfl) rfl (fun K hK => ?_)
  go_simp
  refine hK.out _ _ (fun _ => hT4) ?_
  clear hK K
  refine next_till 13 (by kernel_rfl) rfl (fun K hK => ?_)
  go_simp
  refine hK.out _ _ (fun _ => hT4) ?_
  clear hK K
  refine done_till (by kernel_rfl) ?_ _
  clear hT4 hS hD HX HS Sx
  obtain ⟨Sx, hSx⟩ : ∃ Sx : World → Prop, ∀ W, Sx W ↔ W.cell? ⟨xb, 2, none⟩ = some (ptr tb) := ⟨_, fun _ => Iff.rfl⟩
  have HX := Lib.hid (fun (W : World) (hW : Sx W) => (hSx W).1 hW)
  have hD : Sx w4.drew := (hSx _).2 hd4.tree
  have HS := Lib.hid hSx
  have HD4 := Lib.hid hd4
  clear hSx hd4
  go_wp2_with fail
  refine region_till 99 Sx (by kernel_rfl) hD (fun hS => ?_)
  refine take_till (i := 0) (some 52) (ptr xb) rfl rfl (by kernel_rfl) (by kernel_rfl) (by kernel_rfl) (by kernel_rfl) (by decide) (fun _ _ _ h => h) (by rfl) (fun W hW => ?_) hS ?_
  · have hx := HX.out W hW
    clear hW
    go_simp
  simp only [Act.put, List.setIfInBounds_toArray, List.set_cons_zero, List.set_cons_succ]
  refine take_till (i := 1) (some 53) (ptr xb) rfl rfl (by kernel_rfl) (by kernel_rfl) (by kernel_rfl) (by kernel_rfl) (by decide) (fun _ _ _ h => h) (by rfl) (fun W hW => ?_) hS ?_
  · have hx := HX.out W hW
    clear hW
    go_simp
  simp only [Act.put, List.setIfInBounds_toArray, List.set_cons_zero, List.set_cons_succ]
  refine take_till (i := 2) (some 54) (.pointer (some ⟨xb, 2, none⟩)) rfl rfl (by kernel_rfl) (by kernel_rfl) (by kernel_rfl) (by kernel_rfl) (by decide) (fun _ _ _ h => h) (by rfl) (fun W hW => ?_) hS ?_
  · have hx := HX.out W hW
    clear hW
    go_simp
  simp only [Act.put, List.setIfInBounds_toArray, List.set_cons_zero, List.set_cons_succ]
  refine take_till (i := 3) (some 55) (ptr tb) rfl rfl (by kernel_rfl) (by kernel_rfl) (by kernel_rfl) (by kernel_rfl) (by decide) (fun _ _ _ h => h) (by rfl) (fun W hW => ?_) hS ?_
  · have hx := HX.out W hW
    clear hW
    go_simp
  simp only [Act.put, List.setIfInBounds_toArray, List.set_cons_zero, List.set_cons_succ]
  refine take_till (i := 4) (some 56) (.int .i64 r) rfl rfl (by kernel_rfl) (by kernel_rfl) (by kernel_rfl) (by kernel_rfl) (by decide) (fun _ _ _ h => h) (by rfl) (fun W hW => ?_) hS ?_
  · have hx := HX.out W hW
    clear hW
    go_simp
  simp only [Act.put, List.setIfInBounds_toArray, List.set_cons_zero, List.set_cons_succ]
  have hc0 : Below w4.heap.size w4 w4.drew := (Below.refl _ _).drew
  have B0 := bl_any 98 w4.drew
  refine next_till 5 (by kernel_rfl) rfl (fun K hK => ?_)
  go_simp
  refine B0.mono ?_
  rintro e v0 ⟨kv0, rfl, hk0, hb0, hq0⟩
  have hc1 := hc0.trans (hb0.mono hc0.size)
  have hS0 : Sx v0 := (HS.out _).2 ((HD4.out.later hc1).tree)
  refine hK.out _ _ (fun _ => hS0) ?_
  clear hK K B0
  have C := dk_cut HD4.out hc1 hk0 (fun q hq => .inl (by have h8 := hq0 q hq; have h9 := hc0.size; omega)) (by decide) k40 (by have := HF2.out; omega) (by omega)
  refine next_till 6 (by kernel_rfl) rfl (fun K hK => ?_)
  go_simp
  refine C.mono ?_
  rintro e w5 ⟨r2, ps3, rfl, hd5, hf5, hrr⟩
  have hT5 : Sx w5 := (HS.out _).2 hd5.tree
  refine hK.out _ _ (fun _ => hT5) ?_
  clear hK K C hS0 hk0 hb0 hq0 hc0 hc1
  have e3 : lookP [(([97] : Bytes), ([49] : Bytes))] [98] = none := by decide
  have e4 : cutP [(([97] : Bytes), ([49] : Bytes))] [98] = [([97], [49])] := by decide
  have hr2 : r2 = r := hrr (by rw [e3]; rfl)
  subst hr2
  rw [e3]
  rw [e4] at hd5
  have HF5 := Lib.hid hf5
  clear e3 e4 hf5 hrr
  clear hS
  have hS := hT5
  refine take_till (i := 7) (some 51) (.tuple #[.int .i64 r2, .bool false, err 0]) rfl rfl (by kernel_rfl) (by kernel_rfl) (by kernel_rfl) (by kernel_rfl) (by decide) (fun _ _ _ h => h) (by rfl) (fun W hW => ?_) hS ?_
  · have hx := HX.out W hW
    clear hW
    go_simp
  simp only [Act.put, List.setIfInBounds_toArray, List.set_cons_zero, List.set_cons_succ]
  refine take_till (i := 8) (some 59) (.int .i64 r2) rfl rfl (by kernel_rfl) (by kernel_rfl) (by kernel_rfl) (by kernel_rfl) (by decide) (fun _ _ _ h => h) (by rfl) (fun W hW => ?_) hS ?_
  · have hx := HX.out W hW
    clear hW
    go_simp
  simp only [Act.put, List.setIfInBounds_toArray, List.set_cons_zero, List.set_cons_succ]
  refine take_till (i := 9) (some 60) (.bool false) rfl rfl (by kernel_rfl) (by kernel_rfl) (by kernel_rfl) (by kernel_rfl) (by decide) (fun _ _ _ h => h) (by rfl) (fun W hW => ?_) hS ?_
  · have hx := HX.out W hW
    clear hW
    go_simp
  simp only [Act.put, List.setIfInBounds_toArray, List.set_cons_zero, List.set_cons_succ]
  refine take_till (i := 10) (some 61) (err 0) rfl rfl (by kernel_rfl) (by kernel_rfl) (by kernel_rfl) (by kernel_rfl) (by decide) (fun _ _ _ h => h) (by rfl) (fun W hW => ?_) hS ?_
  · have hx := HX.out W hW
    clear hW
    go_simp
  simp only [Act.put, List.setIfInBounds_toArray, List.set_cons_zero, List.set_cons_succ]
  refine next_till 11 (by kernel_rfl) rfl (fun K hK => ?_)
  go_simp
  refine hK.out _ _ (fun _ => hT5) ?_
  clear hK K
  refine next_till 12 (by kernel_rfl) rfl (fun K hK => ?_)
  go_simp
  refine hK.out _ _ (fun _ => hT5) ?_
  clear hK K
  refine next_till 13 (by kernel_rfl) rfl (fun K hK => ?_)
  go_simp
  refine hK.out _ _ (fun _ => hT5) ?_
  clear hK K
  refine done_till (by kernel_rfl) ?_ _
  clear hT5 hS hD HX HS Sx
  obtain ⟨Sx, hSx⟩ : ∃ Sx : World → Prop, ∀ W, Sx W ↔ W.cell? ⟨xb, 2, none⟩ = some (ptr tb) := ⟨_, fun _ => Iff.rfl⟩
  have HX := Lib.hid (fun (W : World) (hW : Sx W) => (hSx W).1 hW)
  have hD : Sx w5.drew := (hSx _).2 hd5.tree
  have HS := Lib.hid hSx
  have HD5 := Lib.hid hd5
  clear hSx hd5
  go_wp2_with fail
  refine region_till 99 Sx (by kernel_rfl) hD (fun hS => ?_)
  refine take_till (i := 0) (some 63) (ptr xb) rfl rfl (by kernel_rfl) (by kernel_rfl) (by kernel_rfl) (by kernel_rfl) (by decide) (fun _ _ _ h => h) (by rfl) (fun W hW => ?_) hS ?_
  · have hx := HX.out W hW
    clear hW
    go_simp
  simp only [Act.put, List.setIfInBounds_toArray, List.set_cons_zero, List.set_cons_succ]
  refine take_till (i := 1) (some 64) (ptr xb) rfl rfl (by kernel_rfl) (by kernel_rfl) (by kernel_rfl) (by kernel_rfl) (by decide) (fun _ _ _ h => h) (by rfl) (fun W hW => ?_) hS ?_
  · have hx := HX.out W hW
    clear hW
    go_simp
  simp only [Act.put, List.setIfInBounds_toArray, List.set_cons_zero, List.set_cons_succ]
  refine take_till (i := 2) (some 65) (.pointer (some ⟨xb, 2, none⟩)) rfl rfl (by kernel_rfl) (by kernel_rfl) (by kernel_rfl) (by kernel_rfl) (by decide) (fun _ _ _ h => h) (by rfl) (fun W hW => ?_) hS ?_
  · have hx := HX.out W hW
    clear hW
    go_simp
  simp only [Act.put, List.setIfInBounds_toArray, List.set_cons_zero, List.set_cons_succ]
  refine take_till (i := 3) (some 66) (ptr tb) rfl rfl (by kernel_rfl) (by kernel_rfl) (by kernel_rfl) (by kernel_rfl) (by decide) (fun _ _ _ h => h) (by rfl) (fun W hW => ?_) hS ?_
  · have hx := HX.out W hW
    clear hW
    go_simp
  simp only [Act.put, List.setIfInBounds_toArray, List.set_cons_zero, List.set_cons_succ]
  refine take_till (i := 4) (some 67) (.int .i64 r2) rfl rfl (by kernel_rfl) (by kernel_rfl) (by kernel_rfl) (by kernel_rfl) (by decide) (fun _ _ _ h => h) (by rfl) (fun W hW => ?_) hS ?_
  · have hx := HX.out W hW
    clear hW
    go_simp
  simp only [Act.put, List.setIfInBounds_toArray, List.set_cons_zero, List.set_cons_succ]
  have hc0 : Below w5.heap.size w5 w5.drew := (Below.refl _ _).drew
  have B0 := bl_any 97 w5.drew
  refine next_till 5 (by kernel_rfl) rfl (fun K hK => ?_)
  go_simp
  refine B0.mono ?_
  rintro e v0 ⟨kv0, rfl, hk0, hb0, hq0⟩
  have hc1 := hc0.trans (hb0.mono hc0.size)
  have hS0 : Sx v0 := (HS.out _).2 ((HD5.out.later hc1).tree)
  refine hK.out _ _ (fun _ => hS0) ?_
  clear hK K B0
  have C := dk_cut HD5.out hc1 hk0 (fun q hq => .inl (by have h8 := hq0 q hq; have h9 := hc0.size; omega)) (by decide) k40 (by have := HF2.out; have := HF5.out; omega) (by omega)
  refine next_till 6 (by kernel_rfl) rfl (fun K hK => ?_)
  go_simp
  refine C.mono ?_
  rintro e w6 ⟨r3, ps4, rfl, hd6, hf6, hrr⟩
  have hT6 : Sx w6 := (HS.out _).2 hd6.tree
  have e4 : cutP [(([97] : Bytes), ([49] : Bytes))] [97] = [] := by decide
  rw [e4] at hd6
  have hr3 : r3 = -1 := hd6.root_none.1 rfl
  subst hr3
  refine hK.out _ _ (fun _ => hT6) ?_
  clear hK K C hS0 hk0 hb0 hq0 hc0 hc1
  have e3 : lookP [(([97] : Bytes), ([49] : Bytes))] [97] = some [49] := by decide
  rw [e3]
  clear e3 e4 hf6 hrr
  clear hS
  have hS := hT6
  refine take_till (i := 7) (some 62) (.tuple #[.int .i64 (-1), .bool true, err 0]) rfl rfl (by kernel_rfl) (by kernel_rfl) (by kernel_rfl) (by kernel_rfl) (by decide) (fun _ _ _ h => h) (by rfl) (fun W hW => ?_) hS ?_
  · have hx := HX.out W hW
    clear hW
    go_simp
  simp only [Act.put, List.setIfInBounds_toArray, List.set_cons_zero, List.set_cons_succ]
  refine take_till (i := 8) (some 70) (.int .i64 (-1)) rfl rfl (by kernel_rfl) (by kernel_rfl) (by kernel_rfl) (by kernel_rfl) (by decide) (fun _ _ _ h => h) (by rfl) (fun W hW => ?_) hS ?_
  · have hx := HX.out W hW
    clear hW
    go_simp
  simp only [Act.put, List.setIfInBounds_toArray, List.set_cons_zero, List.set_cons_succ]
  refine take_till (i := 9) (some 71) (.bool true) rfl rfl (by kernel_rfl) (by kernel_rfl) (by kernel_rfl) (by kernel_rfl) (by decide) (fun _ _ _ h => h) (by rfl) (fun W hW => ?_) hS ?_
  · have hx := HX.out W hW
    clear hW
    go_simp
  simp only [Act.put, List.setIfInBounds_toArray, List.set_cons_zero, List.set_cons_succ]
  refine take_till (i := 10) (some 72) (err 0) rfl rfl (by kernel_rfl) (by kernel_rfl) (by kernel_rfl) (by kernel_rfl) (by decide) (fun _ _ _ h => h) (by rfl) (fun W hW => ?_) hS ?_
  · have hx := HX.out W hW
    clear hW
    go_simp
  simp only [Act.put, List.setIfInBounds_toArray, List.set_cons_zero, List.set_cons_succ]
  refine next_till 11 (by kernel_rfl) rfl (fun K hK => ?_)
  go_simp
  refine hK.out _ _ (fun _ => hT6) ?_
  clear hK K
  refine next_till 12 (by kernel_rfl) rfl (fun K hK => ?_)
  go_simp
  refine hK.out _ _ (fun _ => hT6) ?_
  clear hK K
  refine next_till 13 (by kernel_rfl) rfl (fun K hK => ?_)
  go_simp
  refine hK.out _ _ (fun _ => hT6) ?_
  clear hK K
  refine done_till (by kernel_rfl) ?_ _
  clear hT6 hS hD HX HS Sx
  have hr1 : r2 ≠ -1 := fun e => by
    have := HD5.out.root_none.2 e
    cases this
  have hr0 : 0 ≤ r2 := by have := HD5.out.root_ge; omega
  obtain ⟨S6, _, hsaid⟩ := hd6.said
  have hgo : Bs w6 (.slice ga 1 gc) [49] := hsaid.1.2.1
  have hk := run_string_bs bt (d := 9) Tryz.underlying9 w6 hgo
  have HU := Lib.hid hd6.under
  clear hr1 hgo hd6 hsaid
  go_wp2
  go_ret
  exact ⟨rfl, HU.out⟩
end Go.Proofs.YtgekeemhbnhelaaGreat
