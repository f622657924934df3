/- The document's journal in memory: Free, Mark, Append, Forget; conditions: the sizes that each contract names. -/
import Derived.Test.YtijkkkiejdaljaaJrRefs
namespace Go.Proofs.Ytijkkkiejdaljaa
open Go.RowKit

/-- The document's journal lies in block rb: its strings, its size, the mark of its beginning. -/
structure RAt (w : World) (rb : Nat) (G : Nat → Prop) (L : List Bytes) (sz first sq : Nat) : Prop where
  ex : ∃ lv, Cel w rb [lv, .int .i64 (sz : Int), .int .i64 (first : Int), .int .u64 (sq : Int)] 48 ∧ RowG w G lv L
  rG : ¬ G rb
  Gl : ∀ q, G q → q < w.heap.size

section
variable {w w' : World} {rb : Nat} {G S : Nat → Prop} {L : List Bytes} {sz first sq : Nat}
theorem RAt.lt (h : RAt w rb G L sz first sq) : rb < w.heap.size := let ⟨_, hc, _⟩ := h.ex; hc.lt
theorem RAt.only (h : RAt w rb G L sz first sq) (ho : Only S w w') (hr : ¬ S rb) (hG : ∀ q, G q → ¬ S q) : RAt w' rb G L sz first sq := by
  obtain ⟨lv, hc, hrow⟩ := h.ex
  exact ⟨⟨lv, hc.only ho hr, hrow.only ho hG⟩, h.rG, fun q hq => Nat.lt_of_lt_of_le (h.Gl q hq) ho.size⟩
theorem RAt.below (h : RAt w rb G L sz first sq) (hb : Below w.heap.size w w') : RAt w' rb G L sz first sq := h.only (Only.of_below hb fun _ => False) id fun _ _ => id

theorem takenBy_take_succ {L : List Bytes} {r : Nat} {l : Bytes} (h : L[r]? = some l) : takenBy (L.take (r + 1)) = takenBy (L.take r) + nBlocks l.length := by
  rw [List.take_add_one, h, takenBy_append]
  simp [takenBy]
theorem takenBy_take_le (L : List Bytes) (r : Nat) : takenBy (L.take r) ≤ takenBy L := by
  conv => rhs; rw [← List.take_append_drop r L]
  rw [takenBy_append]
  omega

set_option maxHeartbeats 1000000 in
theorem refFree_any (h : RAt w rb G L sz first sq) (hL : ∀ l ∈ L, l.length ≤ 1000000) (hn : takenBy L ≤ sz) (hs : sz ≤ 4096) :
    Calls Try.prog 32 #[ptr rb] w fun e w' => e = .returned (.int .i64 ((sz : Int) - (takenBy L : Nat))) ∧ w = w' := by
  obtain ⟨lv, hc, hrow⟩ := h.ex
  obtain ⟨la, lc, rfl⟩ := hrow.shape
  have k0 : w.cell? ⟨rb, 0, none⟩ = some (.slice la L.length lc) := by rw [hc.cell]; rfl
  have k1 : w.cell? ⟨rb, 1, none⟩ = some (.int .i64 (sz : Int)) := by rw [hc.cell]; rfl
  have hlen : L.length ≤ takenBy L := by
    clear h hL hn hc hrow k0 k1
    induction L with
    | nil => exact Nat.zero_le _
    | cons x r ih =>
      have e : takenBy (x :: r) = nBlocks x.length + takenBy r := by simp [takenBy]
      rw [e, List.length_cons]
      unfold nBlocks
      omega
  have HC := Lib.hid (And.intro hrow (And.intro hL hn))
  have hll : (L.length : Int) ≤ 4096 := by omega
  clear h hc hrow hL hn hlen
  go_enter Try.func32, Try.ntmps32
  go_wp2
  go_loopw [3, 4] (fun n i wr => ∃ r : Nat, r ≤ L.length ∧ i = .int .i64 (r : Int) ∧ n = .int .i64 ((sz : Int) - (takenBy (L.take r) : Nat)) ∧ w = wr) (fun _ i _ => L.length - (intOf i).toNat)
  case atStart => exact ⟨0, by omega, rfl, by simp [takenBy], rfl⟩
  case round =>
    obtain ⟨r, hr, rfl, rfl, rfl⟩ := hrel
    by_cases hlt : r < L.length
    · have hlt' : (r : Int) < (L.length : Int) := by omega
      obtain ⟨l, hl⟩ : ∃ l, L[r]? = some l := ⟨_, List.getElem?_eq_getElem hlt⟩
      obtain ⟨g, c, e, hcell⟩ := HC.out.1.cells (by omega)
      simp only [Value.slice.injEq] at e
      obtain ⟨rfl, _, rfl⟩ := e
      obtain ⟨a1, d1, f1, b1⟩ := hcell r l hl
      have hl2 := HC.out.2.1 l (List.mem_of_getElem? hl)
      have htk := takenBy_take_succ hl
      have hle := takenBy_take_le L (r + 1)
      have hle2 := HC.out.2.2
      have HT := Lib.hid (And.intro htk (And.intro hle hle2))
      have hbd : (takenBy (L.take r) : Int) ≤ 4096 := by omega
      have hbn : (nBlocks l.length : Int) ≤ 4096 := by omega
      have hr0 : (0 : Int) ≤ (r : Int) := by omega
      clear hcell b1 htk hle hle2 hl
      go_wp2_with fail
      refine (refBlocks_any _ _ (by omega)).mono ?_
      rintro e w1 ⟨rfl, rfl⟩
      go_wp2
      go_roundw
      case rel => exact ⟨r + 1, by omega, by go_num, by rw [HT.out.1]; go_num, trivial⟩
      case measure => simp [intOf]; omega
    · obtain rfl : r = L.length := by omega
      rw [List.take_of_length_le (Nat.le_refl _)]
      go_wp2
      go_ret
      exact ⟨rfl, rfl⟩

theorem RAt.drewN (h : RAt w rb G L sz first sq) (n : Nat) : RAt (w.drewN n) rb G L sz first sq := h.below (below_drewN (Below.refl _ _) n)

set_option maxHeartbeats 1000000 in
theorem refMark_any (h : RAt w rb G L sz first sq) (hL : ∀ l ∈ L, l.length ≤ 1000000) (hn : takenBy L ≤ sz) (hs : sz ≤ 4096) (h2 : 2 ≤ sz) (hf : first < sz) (hq : sq + L.length < 18446744073709551616) :
    Calls Try.prog 33 #[ptr rb] w fun e w' => e = .returned (.tuple #[.int .i64 (ringAt first sz (takenBy L) : Nat), .int .u64 ((sq : Int) + (L.length : Int))]) ∧ ∃ m, w' = w.drewN m := by
  obtain ⟨lv, hc, hrow⟩ := h.ex
  obtain ⟨la, lc, rfl⟩ := hrow.shape
  have k0 : w.cell? ⟨rb, 0, none⟩ = some (.slice la L.length lc) := by rw [hc.cell]; rfl
  have k1 : w.cell? ⟨rb, 1, none⟩ = some (.int .i64 (sz : Int)) := by rw [hc.cell]; rfl
  have k2 : w.cell? ⟨rb, 2, none⟩ = some (.int .i64 (first : Int)) := by rw [hc.cell]; rfl
  have k3 : w.cell? ⟨rb, 3, none⟩ = some (.int .u64 (sq : Int)) := by rw [hc.cell]; rfl
  have HC := Lib.hid (And.intro h (And.intro hL (And.intro hn hs)))
  have hm : ((ringAt first sz (takenBy L) : Nat) : Int) = ((first : Int) + (takenBy L : Int)) % (sz : Int) := by
    rw [ringAt_mod hf hn, Int.natCast_emod, Int.natCast_add]
  have hu : IntKind.u64.wrap (L.length : Int) = L.length := IntWalk.u64_in _ (by omega)
  have hs0 : (2 : Int) ≤ sz := by omega
  have hs1 : (sz : Int) ≤ 4096 := by omega
  have ht : (takenBy L : Int) ≤ sz := by omega
  have hf1 : (first : Int) < sz := by omega
  have hq1 : (sq : Int) + (L.length : Int) ≤ 18446744073709551615 := by omega
  have hsub : (first : Int) + (sz : Int) - ((sz : Int) - (takenBy L : Int)) = (first : Int) + (takenBy L : Int) := by omega
  have hne : ¬ (sz : Int) = 0 := by omega
  have HM := Lib.hid (And.intro hm hsub)
  clear h hc hrow hL hn hs h2 hf hq hm hsub
  go_enter Try.func33, Try.ntmps33
  go_wp2
  go_quiet ((go_at_call 32; exact quiet_left (refFree_any (HC.out.1.drewN _) HC.out.2.1 HC.out.2.2.1 HC.out.2.2.2)))
  go_wp2
  go_ret2
  rw [HM.out.1]
  exact ⟨by rw [HM.out.2]; rfl, _, rfl⟩

set_option maxHeartbeats 1000000 in
theorem refForget_any (h : RAt w rb G L sz first sq) (hL : ∀ l ∈ L, l.length ≤ 1000000) (hn : takenBy L ≤ sz) (hs : sz ≤ 4096) (h2 : 2 ≤ sz) (hf : first < sz) (hq : sq + L.length < 18446744073709551616) :
    Calls Try.prog 14 #[ptr rb] w fun e w' => e = .returned (.tuple #[]) ∧ RAt w' rb G [] sz (ringAt first sz (takenBy L)) (sq + L.length) ∧ Only (· = rb) w w' := by
  have hmark := refMark_any h hL hn hs h2 hf hq
  have HC := Lib.hid (And.intro h hmark)
  have hlt := h.lt
  have HL := Lib.hid hlt
  clear h hL hn hs h2 hf hq hmark hlt
  go_enter Try.func14, Try.ntmps14
  go_wp2_with fail
  refine HC.out.2.mono ?_
  rintro e w1 ⟨rfl, m, rfl⟩
  obtain ⟨lv, hc, hrow⟩ := HC.out.1.ex
  have hc1 : Cel (w.drewN m) rb [lv, .int .i64 (sz : Int), .int .i64 (first : Int), .int .u64 (sq : Int)] 48 := hc
  have k0 : w.cell? ⟨rb, 0, none⟩ = some lv := by rw [hc.cell]; rfl
  have k2 : w.cell? ⟨rb, 2, none⟩ = some (.int .i64 (first : Int)) := by rw [hc.cell]; rfl
  have k3 : w.cell? ⟨rb, 3, none⟩ = some (.int .u64 (sq : Int)) := by rw [hc.cell]; rfl
  have f0 := hc.frozen 0
  have f2 := hc.frozen 2
  have f3 := hc.frozen 3
  obtain ⟨la, lc, hlv⟩ := hrow.shape
  have H1 := Lib.hid (And.intro hc1 hc)
  rw [hlv] at k0
  clear hc hc1 hrow hlv
  go_wp2
  have hc4 := ((H1.out.1.set 0 (.slice none 0 0)).set 2 (.int .i64 (ringAt first sz (takenBy L) : Nat))).set 3 (.int .u64 ((sq : Int) + (L.length : Int)))
  have ho := ((((Only.refl (· = rb) w).drewN m).setCell (p := ⟨rb, 0, none⟩) (.inl rfl) (.slice none 0 0)).setCell (p := ⟨rb, 2, none⟩) (.inl rfl) (.int .i64 (ringAt first sz (takenBy L) : Nat))).setCell (p := ⟨rb, 3, none⟩) (.inl rfl) (.int .u64 ((sq : Int) + (L.length : Int)))
  refine ⟨rfl, .tuple #[], by kernel_rfl, rfl, ⟨⟨.slice none 0 0, ?_, RowG.nil _ _⟩, HC.out.1.rG, fun q hq => ?_⟩, ho⟩
  · exact hc4
  · have := HC.out.1.Gl q hq
    have := ho.size
    omega

theorem refAppend_full (h : RAt w rb G L sz first sq) (hL : ∀ l ∈ L, l.length ≤ 1000000) (hn : takenBy L ≤ sz) (hs : sz ≤ 4096) {v : Value} {l : Bytes} (hv : Bs w v l) (hl : l.length ≤ 1000000) (hr : sz < takenBy L + nBlocks l.length) :
    Calls Try.prog 12 #[ptr rb, v] w fun e w' => e = .returned (err 7) ∧ w = w' := by
  obtain ⟨va, vc, rfl, _⟩ := hv.shape
  have hq : (sz : Int) - (takenBy L : Int) < (nBlocks l.length : Nat) := by omega
  have HF := Lib.hid (refFree_any h hL hn hs)
  clear h hL hn hs hr hv
  go_enter Try.func12, Try.ntmps12
  go_wp2_with fail
  refine (refBlocks_any _ _ (by omega)).mono ?_
  rintro e w1 ⟨rfl, rfl⟩
  go_wp2_with fail
  refine HF.out.mono ?_
  rintro e w1 ⟨rfl, rfl⟩
  go_wp2
  go_ret
  exact ⟨rfl, rfl⟩

set_option maxHeartbeats 2000000 in
theorem refAppend_ok (h : RAt w rb G L sz first sq) (hL : ∀ l ∈ L, l.length ≤ 1000000) (hn : takenBy L ≤ sz) (hs : sz ≤ 4096) {v : Value} {l : Bytes} (hv : Bs w v l) (hl : l.length ≤ 1000000) (hr : takenBy L + nBlocks l.length ≤ sz) :
    Calls Try.prog 12 #[ptr rb, v] w fun e w' => e = .returned (err 0) ∧ RAt w' rb (Grow G w w') (L ++ [l]) sz first sq ∧ Only (fun q => G q ∨ q = rb) w w' := by
  obtain ⟨va, vc, rfl, _⟩ := hv.shape
  have hq : (nBlocks l.length : Nat) ≤ (sz : Int) - (takenBy L : Int) := by omega
  have HF := Lib.hid (refFree_any h hL hn hs)
  obtain ⟨lv, hc, hrow⟩ := h.ex
  have hlen : L.length ≤ takenBy L := by
    clear h hL hn hc hrow hr hq HF
    induction L with
    | nil => exact Nat.zero_le _
    | cons x r ih =>
      have e : takenBy (x :: r) = nBlocks x.length + takenBy r := by simp [takenBy]
      rw [e, List.length_cons]
      unfold nBlocks
      omega
  have HC := Lib.hid (And.intro h (And.intro hc (And.intro hrow (And.intro hv (And.intro hl (show L.length ≤ 4096 by omega))))))
  have hll : (l.length : Int) ≤ 1000000 := by omega
  clear h hL hn hs hr hv hc hrow hlen hl
  go_enter Try.func12, Try.ntmps12
  go_wp2_with fail
  refine (refBlocks_any _ _ (by omega)).mono ?_
  rintro e w1 ⟨rfl, rfl⟩
  go_wp2_with fail
  refine HF.out.mono ?_
  rintro e w1 ⟨rfl, rfl⟩
  go_wp2
  have HX := Lib.hid (fun (W : World) (hW : W.heap[rb]? = w.heap[rb]?) => show W.cell? ⟨rb, 0, none⟩ = some lv by rw [(HC.out.2.1.kept hW).cell]; rfl)
  refine region_till 12 (fun W => W.heap[rb]? = w.heap[rb]?) (by kernel_rfl) rfl (fun hS => ?_)
  refine take_till (i := 0) (some 11) (ptr rb) rfl rfl (by kernel_rfl) (by kernel_rfl) (by kernel_rfl) (by kernel_rfl) (by decide) (fun _ _ _ h => h) (by rfl) (fun W hW => ?_) hS ?_
  · have hx := HX.out W hW
    clear hW
    go_simp
  simp only [Act.put, List.setIfInBounds_toArray, List.set_cons_zero, List.set_cons_succ]
  refine take_till (i := 1) (some 12) (ptr rb) rfl rfl (by kernel_rfl) (by kernel_rfl) (by kernel_rfl) (by kernel_rfl) (by decide) (fun _ _ _ h => h) (by rfl) (fun W hW => ?_) hS ?_
  · have hx := HX.out W hW
    clear hW
    go_simp
  simp only [Act.put, List.setIfInBounds_toArray, List.set_cons_zero, List.set_cons_succ]
  refine take_till (i := 2) (some 13) (ptr rb) rfl rfl (by kernel_rfl) (by kernel_rfl) (by kernel_rfl) (by kernel_rfl) (by decide) (fun _ _ _ h => h) (by rfl) (fun W hW => ?_) hS ?_
  · have hx := HX.out W hW
    clear hW
    go_simp
  simp only [Act.put, List.setIfInBounds_toArray, List.set_cons_zero, List.set_cons_succ]
  refine take_till (i := 3) (some 14) (.pointer (some ⟨rb, 0, none⟩)) rfl rfl (by kernel_rfl) (by kernel_rfl) (by kernel_rfl) (by kernel_rfl) (by decide) (fun _ _ _ h => h) (by rfl) (fun W hW => ?_) hS ?_
  · have hx := HX.out W hW
    clear hW
    go_simp
  simp only [Act.put, List.setIfInBounds_toArray, List.set_cons_zero, List.set_cons_succ]
  refine take_till (i := 4) (some 15) (lv) rfl rfl (by kernel_rfl) (by kernel_rfl) (by kernel_rfl) (by kernel_rfl) (by decide) (fun _ _ _ h => h) (by rfl) (fun W hW => ?_) hS ?_
  · have hx := HX.out W hW
    clear hW
    go_simp
  simp only [Act.put, List.setIfInBounds_toArray, List.set_cons_zero, List.set_cons_succ]
  refine take_till (i := 6) (some 17) (.slice va l.length vc) rfl rfl (by kernel_rfl) (by kernel_rfl) (by kernel_rfl) (by kernel_rfl) (by decide) (fun _ _ _ h => h) (by rfl) (fun W hW => ?_) hS ?_
  · have hx := HX.out W hW
    clear hW
    go_simp
  simp only [Act.put, List.setIfInBounds_toArray, List.set_cons_zero, List.set_cons_succ]
  refine next_till 5 (by kernel_rfl) rfl (fun K hK => ?_)
  go_simp
  have o1 : Ow (w.alloc (.cells #[] 5)).drew w.heap.size 5 (.slice (some ⟨w.heap.size, 0, none⟩) 0 0) [] := ow_empty w
  have b1 : Below w.heap.size w (w.alloc (.cells #[] 5)).drew := below_drewN ((Below.refl w.heap.size w).alloc (Nat.le_refl _) _) 1
  generalize (w.alloc (.cells #[] 5)).drew = w1 at *
  have S1 : w1.heap[rb]? = w.heap[rb]? := b1.block rb HC.out.1.lt
  refine hK.out _ _ (fun _ => S1) ?_
  clear hK K hS
  obtain ⟨v2, w2, hrun2, o2, g2, loc2⟩ := run_append_bs_at bt w1 w.heap.size 37 o1 (HC.out.2.2.2.1.below b1) (by simp; omega) b1.size
  rw [List.nil_append] at o2
  have b2 : Below w.heap.size w w2 := b1.grown g2 b1.size fun k hk => by cases hk; exact Nat.le_refl _
  have S2 : w2.heap[rb]? = w.heap[rb]? := b2.block rb HC.out.1.lt
  refine next_till 7 (by kernel_rfl) rfl (fun K hK => ?_)
  rw [if_pos (by rfl)]
  refine wp_append_run (.tmp 16) (.tmp 17) 37 rfl rfl rfl hrun2 ?_
  refine hK.out _ _ (fun _ => S2) ?_
  simp only [Act.put, List.setIfInBounds_toArray]
  clear hK K o1 b1 hrun2 g2 loc2 S1
  have row2 := HC.out.2.2.1.below b2
  have lvG : ∀ q, lv.ownBlock = some q → G q := fun q e => by
    obtain ⟨vals, _, _, hvv⟩ := HC.out.2.2.1
    exact hvv q e
  obtain ⟨v4, w4, hrun4, row4, o4⟩ := (row2.widen (G' := fun q => G q ∨ (w.heap.size ≤ q ∧ q < w2.heap.size)) (fun q hq => .inl hq)).push o2.bs (fun q hq => ⟨.inr (o2.own hq), (o2.own hq).2, fun e => by
    have h1 := HC.out.1.Gl q (lvG q e)
    have h2 := (o2.own hq).1
    omega⟩) (by have := HC.out.2.2.2.2.2; omega)
  obtain ⟨a2, c2, hv2, _⟩ := o2.bs.shape
  have S4 : w4.heap[rb]? = w.heap[rb]? := (o4.block rb (by have := b2.size; have := HC.out.1.lt; omega) (fun e => HC.out.1.rG (lvG rb e))).trans S2
  have H4 := Lib.hid (And.intro row4 (And.intro o4 (And.intro b2 (And.intro lvG o2))))
  have hlb := HC.out.1.lt
  have S3 : (w2.alloc (.cells #[v2] 37)).heap[rb]? = w.heap[rb]? := (Below.heap_alloc _ _ _ (by have := b2.size; omega)).trans S2
  clear row2 lvG row4 o4 b2 o2 S2 hlb
  subst hv2
  refine next_till 8 (by kernel_rfl) rfl (fun K hK => ?_)
  go_simp
  refine hK.out _ _ (fun _ => S3) ?_
  clear hK K S3
  refine next_till 9 (by kernel_rfl) rfl (fun K hK => ?_)
  rw [if_pos (by rfl)]
  refine wp_append_run (.tmp 15) (.tmp 19) 43 rfl rfl rfl hrun4 ?_
  refine hK.out _ _ (fun _ => S4) ?_
  simp only [Act.put, List.setIfInBounds_toArray]
  clear hK K hrun4
  have hS := S4
  refine next_till 10 (by kernel_rfl) rfl (fun K hK => ?_)
  go_simp
  refine hK.out _ _ (fun _ => S4) ?_
  clear hK K
  refine next_till 11 (by kernel_rfl) rfl (fun K hK => ?_)
  go_simp
  refine hK.out _ _ (fun _ => S4) ?_
  clear hK K
  have hc4 := HC.out.2.1.kept S4
  have k0 : w4.cell? ⟨rb, 0, none⟩ = some lv := by rw [hc4.cell]; rfl
  have f0 := hc4.frozen 0
  have H5 := Lib.hid hc4
  clear hc4
  obtain ⟨a4, c4, h4⟩ := H4.out.1.shape
  rw [List.length_append, List.length_singleton] at h4
  subst h4
  obtain ⟨la, lc, hlv⟩ := HC.out.2.2.1.shape
  rw [hlv] at k0
  have HV := Lib.hid hlv
  clear hlv
  refine next_till 12 (by kernel_rfl) rfl (fun K hK => ?_)
  go_simp
  have ho5 := (Only.refl (· = rb) w4).setCell (p := ⟨rb, 0, none⟩) (.inl rfl) (.slice a4 (L.length + 1) c4)
  have hc5 := H5.out.set 0 (.slice a4 (L.length + 1) c4)
  have z2 := H4.out.2.2.1.size
  have z4 := H4.out.2.1.size
  have z5 := ho5.size
  have hG4 : ∀ q, Grow (fun q => G q ∨ (w.heap.size ≤ q ∧ q < w2.heap.size)) w2 w4 q → Grow G w w4 q := fun q hq => by
    rcases hq with (hq | hq) | hq
    · exact .inl hq
    · exact .inr ⟨hq.1, by omega⟩
    · exact .inr ⟨by omega, hq.2⟩
  have row5 := (H4.out.1.widen hG4).only ho5 fun q hq e => by
    subst e
    rcases hq with hq | hq
    · exact HC.out.1.rG hq
    · have := HC.out.1.lt; omega
  have HFIN := Lib.hid (And.intro hc5 (And.intro row5 ho5))
  refine hK.out _ _ (fun e => absurd rfl e) ?_
  clear hK K hc5 row5 ho5 z2 z4 z5 hG4
  refine done_till (by kernel_rfl) ?_ _
  go_wp2
  go_ret
  have z2 := H4.out.2.2.1.size
  have z4 := H4.out.2.1.size
  have z5 := HFIN.out.2.2.size
  refine ⟨rfl, ⟨⟨_, HFIN.out.1, HFIN.out.2.1.widen fun q hq => hq.imp id fun hq => ⟨hq.1, by omega⟩⟩, fun hg => ?_, fun q hq => ?_⟩, ?_⟩
  · rcases hg with hg | hg
    · exact HC.out.1.rG hg
    · have := HC.out.1.lt; omega
  · rcases hq with hq | hq
    · have := HC.out.1.Gl q hq; omega
    · exact hq.2
  · refine ((Only.of_below H4.out.2.2.1 (fun q => G q ∨ q = rb)).then H4.out.2.1 fun q hq => .inl (.inl (H4.out.2.2.2.1 q hq))).trans (HFIN.out.2.2.mono fun q _ hq => .inr hq)
end
end Go.Proofs.Ytijkkkiejdaljaa
