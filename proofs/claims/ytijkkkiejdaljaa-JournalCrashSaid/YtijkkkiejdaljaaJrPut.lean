/- A block of a journal is put: it is sealed behind its stamp and written; conditions: the device and the journal's head lie in memory, apart; fewer than 2^32 things are loose in each block. -/
import Derived.Test.YtijkkkiejdaljaaJrStamp
import Derived.Test.YtijkkkiejdaljaaHeldLast
namespace Go.Proofs.Ytijkkkiejdaljaa
open Go.RowKit

section
variable {w w' : World} {jb b : Nat} {J : Jn} {D D' : Dv} {F : Nat → Prop}

/-- A call that has turned a device, with what went on ahead and behind: there new blocks, and own ones, were turned. -/
theorem dev_end {w4 w5 : World} {S : Nat → Prop} (h0 : ∀ q, F q → q < w.heap.size) (hb : Below w.heap.size w w4) (hd : Dev w5 b D' (Grow F w4 w5)) (ho : Only F w4 w5) (hr : Only S w5 w') (hS : ∀ q, S q → w.heap.size ≤ q ∧ q < w4.heap.size) :
    Dev w' b D' (Grow F w w') ∧ Only F w w' := by
  have s1 := hb.size
  have s2 := ho.size
  have s3 := hr.size
  refine ⟨(hd.other hr fun g hg hs => ?_).widen (fun q hq => hq.imp id fun hq => ⟨by omega, by omega⟩) (fun q hq => ?_), ((Only.of_below hb F).trans ho).then hr fun q hq => .inr (hS q hq).1⟩
  · have h1 := hS g hs
    rcases hg with hg | hg
    · have := h0 g hg; omega
    · omega
  · rcases hq with hq | hq
    · have := h0 q hq; omega
    · exact hq.2
theorem results_cell_tmp {P : Program} {fn : Func} {t u : Tmp} {ty : TypeId} (h : fn.results = #[.cell t ty, .tmp u]) {tmps : Array Value} {w : World} {a : Addr} {v : Value} (ha : tmps.getD t undef = .pointer (some a))
    (hl : (loadVar ty a).run P w = .ok v w) : (results fn tmps).run P w = .ok (.tuple #[v, tmps.getD u undef]) w := by
  have ha' : tmps[t]?.getD undef = .pointer (some a) := by rw [← Array.getD_eq_getD_getElem?]; exact ha
  simp [results, h, ha', asAddr, hl]

def Puts (w : World) (b : Nat) (F : Nat → Prop) (t : Spot) (c : Int) (D' : Dv) (e : Ending) (w' : World) : Prop :=
  e = .returned (.tuple #[spotV t, err c]) ∧ Dev w' b D' (Grow F w w') ∧ Only F w w'

set_option maxHeartbeats 1000000 in
theorem put_any' (h : JAt w jb b J) (hJ : J.Fit) (hD : Dev w b D F) (hjb : ¬ F jb) (hs : Small D) (t : Spot) (ht : t.1 < J.size) {k : UInt8} (hk : k ≠ 0) {kv : Value} (hkv : kv = .int .u8 (k.toNat : Int)) {pv : Value} {p : Bytes} (hp : Bs w pv p) (hpl : p.length ≤ 480) :
    Calls Try.prog 44 #[ptr jb, spotV t, kv, pv] w (Puts w b F (putS J D t k p) (putC J D t k p) (putD J D t k p)) := by
  have b1 := (Below.refl w.heap.size w).alloc (Nat.le_refl _) (.cells #[.int .i64 (t.1 : Int), .int .u64 (t.2 : Int)] 65)
  have c1 := Cel.new w #[.int .i64 (t.1 : Int), .int .u64 (t.2 : Int)] 65
  have c1' := c1.alloc (.cells #[.int .i64 0, .int .u64 0] 65)
  have c2 := Cel.new (w.alloc (.cells #[.int .i64 (t.1 : Int), .int .u64 (t.2 : Int)] 65)) #[.int .i64 0, .int .u64 0] 65
  have b2 := b1.alloc (by simp) (.cells #[.int .i64 0, .int .u64 0] 65)
  have hs0 : (w.alloc (.cells #[.int .i64 (t.1 : Int), .int .u64 (t.2 : Int)] 65)).heap.size = w.heap.size + 1 := by simp
  rw [hs0] at c2
  have hF0 := hD.fl
  obtain ⟨pa, pc, rfl, _⟩ := hp.shape
  have HK := Lib.hid (And.intro hk hkv)
  have H := Lib.hid (And.intro (And.intro h (And.intro hJ (And.intro hD (And.intro hjb hs)))) (And.intro (And.intro c1' c2) (And.intro b2 (And.intro hp (And.intro hpl ht)))))
  have hpl' : (p.length : Int) ≤ 480 := by omega
  clear h hJ hD hjb hs b1 c1 c1' c2 b2 hs0 hp hpl hF0 hk hkv ht
  unfold Puts
  go_enter Try.func44, Try.ntmps44
  go_wp2_with fail
  refine (stamp_any (H.out.1.1.below H.out.2.2.1) H.out.1.2.1 t).mono ?_
  rintro e w1 ⟨v1, rfl, o1, b1⟩
  generalize hW0 : (w.alloc (.cells #[.int .i64 (t.1 : Int), .int .u64 (t.2 : Int)] 65)).alloc (.cells #[.int .i64 0, .int .u64 0] 65) = W0 at *
  have s0 := H.out.2.2.1.size
  have hsz0 : W0.heap.size = w.heap.size + 2 := by rw [← hW0]; simp
  have hsz : (stampL J.at_ J.seq t.2).length + p.length ≤ 140737488355328 := by rw [stampL_length]; omega
  have hp1 := H.out.2.2.2.1.below (H.out.2.2.1.trans (b1.mono s0))
  have hz1 := b1.size
  have K1 := Lib.hid (And.intro b1 (And.intro hsz0 hW0))
  clear b1 s0 hsz0 hW0
  go_wp2_with (at_builtin; refine wpList_append_bs bt rfl _ _ rfl _ rfl rfl o1 hp1 hsz hz1 ?_; intro v2 w2 o2 g2)
  have b2 : Below W0.heap.size W0 w2 := below_own K1.out.1 o1 g2
  have hl2 : (stampL J.at_ J.seq t.2 ++ p).length ≤ 505 := by rw [List.length_append, stampL_length]; omega
  clear o1 hp1 hsz hz1 g2
  rw [HK.out.2]
  refine (blkSeal_ok k _ o2.bs HK.out.1 hl2).mono ?_
  rintro e w3 ⟨v3, rfl, o3, b3⟩
  have b3' : Below W0.heap.size W0 w3 := b2.trans (b3.mono b2.size)
  have hl3 : (sealL k (stampL J.at_ J.seq t.2 ++ p)).length = 512 := sealL_length hl2
  obtain ⟨g3, q3, rfl, hg3⟩ := o3.form (by rw [hl3]; decide)
  have o3' := o3.bs
  have hbk : J.blk t k p = sealL k (stampL J.at_ J.seq t.2 ++ p) := rfl
  rw [← hbk] at o3' hl3
  rw [← hbk, hl3]
  rw [hl3] at o3'
  have ht' := H.out.2.2.2.2.2
  have hlF : ∀ q, F q → q < w.heap.size := H.out.1.2.2.1.fl
  have hoff : ∀ q, (Value.slice (some ⟨g3, 0, none⟩) 512 q3).ownBlock = some q → ¬ F q := fun q hq hf => by
    have e : g3 = q := Option.some.inj hq
    have := hlF q hf
    have := b2.size
    have := K1.out.2.1
    omega
  have j3 := (H.out.1.1.below H.out.2.2.1).below (b3'.mono (Nat.le_refl _))
  have k3 := H.out.2.1.1.kept (b3'.block w.heap.size (by have := K1.out.2.1; omega))
  have z3 := H.out.2.1.2.kept (b3'.block (w.heap.size + 1) (by have := K1.out.2.1; omega))
  have bw3 : Below w.heap.size w w3 := H.out.2.2.1.trans (b3'.mono H.out.2.2.1.size)
  have hsz3 := b3'.size
  have H3 := Lib.hid (And.intro (And.intro o3' hoff) (And.intro (And.intro j3 (And.intro k3 z3)) (And.intro bw3 (And.intro hl3 ht'))))
  have hpc : ((J.place t : Nat) : Int) = (J.fr : Int) + (ringAt J.at_ J.size t.1 : Nat) := by unfold Jn.place; omega
  have hrl : (ringAt J.at_ J.size t.1 : Nat) < (4096 : Int) := by have := ringAt_lt H.out.1.2.1.atl ht'; have := H.out.1.2.1.few; omega
  have hfl : (J.fr : Int) ≤ 4096 := by have := H.out.1.2.1.frl; omega
  have HP := Lib.hid hpc
  have hz30 := K1.out.2.1
  clear o2 b2 hl2 o3 b3 b3' hg3 o3' hbk ht' hlF hoff j3 k3 z3 bw3 hl3 hpc
  go_wp2
  have HX := Lib.hid (fun (W : World) (hW : W.heap[jb]? = w3.heap[jb]? ∧ W.heap[w.heap.size]? = w3.heap[w.heap.size]?) => And.intro (H3.out.2.1.1.kept hW.1).cells (And.intro (show W.cell? ⟨w.heap.size, 0, none⟩ = some (.int .i64 (t.1 : Int)) by rw [(H3.out.2.1.2.1.kept hW.2).cell]; rfl) (show W.cell? ⟨w.heap.size, 1, none⟩ = some (.int .u64 (t.2 : Int)) by rw [(H3.out.2.1.2.1.kept hW.2).cell]; rfl)))
  refine region_till 99 (fun W => W.heap[jb]? = w3.heap[jb]? ∧ W.heap[w.heap.size]? = w3.heap[w.heap.size]?) (by kernel_rfl) ⟨rfl, rfl⟩ (fun hS => ?_)
  refine take_till (i := 0) (some 26) (ptr jb) rfl rfl (by kernel_rfl) (by kernel_rfl) (by kernel_rfl) (by kernel_rfl) (by decide) (fun _ _ _ h => h) (by rfl) (fun W hW => ?_) hS ?_
  · obtain ⟨⟨c0, c1, c2, c3, c4, c5, c6, c7, c8⟩, d0, d1⟩ := HX.out W hW
    clear hW
    go_simp
  simp only [Act.put, List.setIfInBounds_toArray, List.set_cons_zero, List.set_cons_succ]
  refine take_till (i := 1) (some 27) (ptr jb) rfl rfl (by kernel_rfl) (by kernel_rfl) (by kernel_rfl) (by kernel_rfl) (by decide) (fun _ _ _ h => h) (by rfl) (fun W hW => ?_) hS ?_
  · obtain ⟨⟨c0, c1, c2, c3, c4, c5, c6, c7, c8⟩, d0, d1⟩ := HX.out W hW
    clear hW
    go_simp
  simp only [Act.put, List.setIfInBounds_toArray, List.set_cons_zero, List.set_cons_succ]
  refine take_till (i := 2) (some 28) (.pointer (some ⟨jb, 0, none⟩)) rfl rfl (by kernel_rfl) (by kernel_rfl) (by kernel_rfl) (by kernel_rfl) (by decide) (fun _ _ _ h => h) (by rfl) (fun W hW => ?_) hS ?_
  · obtain ⟨⟨c0, c1, c2, c3, c4, c5, c6, c7, c8⟩, d0, d1⟩ := HX.out W hW
    clear hW
    go_simp
  simp only [Act.put, List.setIfInBounds_toArray, List.set_cons_zero, List.set_cons_succ]
  refine take_till (i := 3) (some 29) (ptr b) rfl rfl (by kernel_rfl) (by kernel_rfl) (by kernel_rfl) (by kernel_rfl) (by decide) (fun _ _ _ h => h) (by rfl) (fun W hW => ?_) hS ?_
  · obtain ⟨⟨c0, c1, c2, c3, c4, c5, c6, c7, c8⟩, d0, d1⟩ := HX.out W hW
    clear hW
    go_simp
  simp only [Act.put, List.setIfInBounds_toArray, List.set_cons_zero, List.set_cons_succ]
  refine take_till (i := 4) (some 30) (ptr jb) rfl rfl (by kernel_rfl) (by kernel_rfl) (by kernel_rfl) (by kernel_rfl) (by decide) (fun _ _ _ h => h) (by rfl) (fun W hW => ?_) hS ?_
  · obtain ⟨⟨c0, c1, c2, c3, c4, c5, c6, c7, c8⟩, d0, d1⟩ := HX.out W hW
    clear hW
    go_simp
  simp only [Act.put, List.setIfInBounds_toArray, List.set_cons_zero, List.set_cons_succ]
  refine take_till (i := 5) (some 31) (ptr jb) rfl rfl (by kernel_rfl) (by kernel_rfl) (by kernel_rfl) (by kernel_rfl) (by decide) (fun _ _ _ h => h) (by rfl) (fun W hW => ?_) hS ?_
  · obtain ⟨⟨c0, c1, c2, c3, c4, c5, c6, c7, c8⟩, d0, d1⟩ := HX.out W hW
    clear hW
    go_simp
  simp only [Act.put, List.setIfInBounds_toArray, List.set_cons_zero, List.set_cons_succ]
  refine take_till (i := 6) (some 32) (.pointer (some ⟨jb, 1, none⟩)) rfl rfl (by kernel_rfl) (by kernel_rfl) (by kernel_rfl) (by kernel_rfl) (by decide) (fun _ _ _ h => h) (by rfl) (fun W hW => ?_) hS ?_
  · obtain ⟨⟨c0, c1, c2, c3, c4, c5, c6, c7, c8⟩, d0, d1⟩ := HX.out W hW
    clear hW
    go_simp
  simp only [Act.put, List.setIfInBounds_toArray, List.set_cons_zero, List.set_cons_succ]
  refine take_till (i := 7) (some 33) (.int .i64 (J.fr : Int)) rfl rfl (by kernel_rfl) (by kernel_rfl) (by kernel_rfl) (by kernel_rfl) (by decide) (fun _ _ _ h => h) (by rfl) (fun W hW => ?_) hS ?_
  · obtain ⟨⟨c0, c1, c2, c3, c4, c5, c6, c7, c8⟩, d0, d1⟩ := HX.out W hW
    clear hW
    go_simp
  simp only [Act.put, List.setIfInBounds_toArray, List.set_cons_zero, List.set_cons_succ]
  refine take_till (i := 8) (some 34) (ptr jb) rfl rfl (by kernel_rfl) (by kernel_rfl) (by kernel_rfl) (by kernel_rfl) (by decide) (fun _ _ _ h => h) (by rfl) (fun W hW => ?_) hS ?_
  · obtain ⟨⟨c0, c1, c2, c3, c4, c5, c6, c7, c8⟩, d0, d1⟩ := HX.out W hW
    clear hW
    go_simp
  simp only [Act.put, List.setIfInBounds_toArray, List.set_cons_zero, List.set_cons_succ]
  refine take_till (i := 9) (some 35) (spotV t) rfl rfl (by kernel_rfl) (by kernel_rfl) (by kernel_rfl) (by kernel_rfl) (by decide) (fun _ _ _ h => h) (by rfl) (fun W hW => ?_) hS ?_
  · obtain ⟨⟨c0, c1, c2, c3, c4, c5, c6, c7, c8⟩, d0, d1⟩ := HX.out W hW
    clear hW
    go_simp
  simp only [Act.put, List.setIfInBounds_toArray, List.set_cons_zero, List.set_cons_succ]
  refine take_till (i := 12) (some 38) (.slice (some ⟨g3, 0, none⟩) 512 q3) rfl rfl (by kernel_rfl) (by kernel_rfl) (by kernel_rfl) (by kernel_rfl) (by decide) (fun _ _ _ h => h) (by rfl) (fun W hW => ?_) hS ?_
  · obtain ⟨⟨c0, c1, c2, c3, c4, c5, c6, c7, c8⟩, d0, d1⟩ := HX.out W hW
    clear hW
    go_simp
  simp only [Act.put, List.setIfInBounds_toArray, List.set_cons_zero, List.set_cons_succ]
  refine next_till 10 (by kernel_rfl) rfl (fun K hK => ?_)
  go_simp
  refine (place_any (w := w3.drew) H3.out.2.1.1 H.out.1.2.1.atl H.out.1.2.1.few t (Nat.le_of_lt H3.out.2.2.2.2)).mono ?_
  rintro e w4 ⟨rfl, b4⟩
  have b4' : Below w3.heap.size w3 w4 := (below_drewN (Below.refl w3.heap.size w3) 1).trans b4
  have S4 : w4.heap[jb]? = w3.heap[jb]? ∧ w4.heap[w.heap.size]? = w3.heap[w.heap.size]? := ⟨b4'.block jb H3.out.2.1.1.lt, b4'.block _ (by omega)⟩
  clear b4
  refine hK.out _ _ (fun _ => S4) ?_
  clear hK K hS
  have hS := S4
  refine take_till (i := 11) (some 37) (.int .i64 ((J.fr : Int) + (ringAt J.at_ J.size t.1 : Nat))) rfl rfl (by kernel_rfl) (by kernel_rfl) (by kernel_rfl) (by kernel_rfl) (by decide) (fun _ _ _ h => h) (by rfl) (fun W hW => ?_) hS ?_
  · clear hW
    go_simp
    exact IntWalk.i64_in _ (by omega)
  simp only [Act.put, List.setIfInBounds_toArray, List.set_cons_zero, List.set_cons_succ]
  refine next_till 13 (by kernel_rfl) rfl (fun K hK => ?_)
  go_simp
  rw [← HP.out]
  have bw4 : Below w.heap.size w w4 := H3.out.2.2.1.trans (b4'.mono H3.out.2.2.1.size)
  have s4 := b4'.size
  have b4s : w.heap.size + 2 ≤ w4.heap.size := by omega
  refine (dwrite_any (H.out.1.2.2.1.below bw4) H.out.1.2.2.2.2 _ (H3.out.1.1.below b4') H3.out.1.2).mono ?_
  rintro e w5 ⟨rfl, hd5, ho5⟩
  have S5 : w5.heap[jb]? = w3.heap[jb]? ∧ w5.heap[w.heap.size]? = w3.heap[w.heap.size]? := ⟨(ho5.block jb (by have := H3.out.2.1.1.lt; omega) H.out.1.2.2.2.1).trans S4.1, (ho5.block _ (by omega) (fun hf => by have := H.out.1.2.2.1.fl _ hf; omega)).trans S4.2⟩
  have z5 : w5.heap[w.heap.size + 1]? = w3.heap[w.heap.size + 1]? := (ho5.block _ (by omega) (fun hf => by have := H.out.1.2.2.1.fl _ hf; omega)).trans (b4'.block _ (by omega))
  have v5 : Bs w5 (.slice (some ⟨g3, 0, none⟩) 512 q3) (J.blk t k p) := (H3.out.1.1.below b4').only ho5 H3.out.1.2
  have H5 := Lib.hid (And.intro (And.intro bw4 (And.intro hd5 ho5)) (And.intro v5 (And.intro (H3.out.2.1.1.kept S5.1) (And.intro (H3.out.2.1.2.1.kept S5.2) (H3.out.2.1.2.2.kept z5)))))
  clear hd5 ho5 z5 v5 bw4 s4 b4'
  refine hK.out _ _ (fun _ => S5) ?_
  clear hK K hS S4
  refine next_till 14 (by kernel_rfl) rfl (fun K hK => ?_)
  go_simp
  refine hK.out _ _ (fun _ => S5) ?_
  clear hK K
  refine done_till (by kernel_rfl) ?_ _
  have kz := H5.out.2.2.2.2
  have e0 := kz.cell 0
  have e1 := kz.cell 1
  have f0 := kz.frozen 0
  have f1 := kz.frozen 1
  have kb := H5.out.2.2.2.1
  have e2 : w5.cell? ⟨w.heap.size, 0, none⟩ = some (.int .i64 (t.1 : Int)) := by rw [kb.cell]; rfl
  have e3 : w5.cell? ⟨w.heap.size, 1, none⟩ = some (.int .u64 (t.2 : Int)) := by rw [kb.cell]; rfl
  replace e0 : w5.cell? ⟨w.heap.size + 1, 0, none⟩ = some (.int .i64 0) := e0
  replace e1 : w5.cell? ⟨w.heap.size + 1, 1, none⟩ = some (.int .u64 0) := e1
  have hz5 : w.heap.size + 1 < w4.heap.size := by have := b4s; omega
  clear kz kb S5
  have bw4 := H5.out.1.1
  by_cases hc : putC J D t k p = 0
  · have hS : putS J D t k p = behindS t (J.blk t k p) := by unfold putS; rw [if_pos hc]
    have hc' : wcode D (J.place t : Nat) (J.blk t k p) = 0 := hc
    rw [hc']
    have HE := Lib.hid (And.intro hS hc)
    clear hS hc hc'
    go_wp2_with fail
    refine (behind_any t _ H5.out.2.1 H3.out.2.2.2.1 (by have := H.out.1.2.1.few; have := H3.out.2.2.2.2; omega)).mono ?_
    rintro e w6 ⟨rfl, b6⟩
    have kz := H5.out.2.2.2.2.below b6 H5.out.2.2.2.2.lt
    have g0 : w6.cell? ⟨w.heap.size + 1, 0, none⟩ = some (.int .i64 0) := kz.cell 0
    have g1 : w6.cell? ⟨w.heap.size + 1, 1, none⟩ = some (.int .u64 0) := kz.cell 1
    have i0 := kz.frozen 0
    have i1 := kz.frozen 1
    have H6 := Lib.hid (And.intro kz b6)
    clear kz b6 e0 e1 f0 f1 e2 e3
    go_wp2
    have k7 : Cel ((w6.setCell ⟨w.heap.size + 1, 0, none⟩ (.int .i64 ((behindS t (J.blk t k p)).1 : Int))).setCell ⟨w.heap.size + 1, 1, none⟩ (.int .u64 ((behindS t (J.blk t k p)).2 : Int))) (w.heap.size + 1) (spotL (behindS t (J.blk t k p))) 65 := (H6.out.1.set 0 _).set 1 _
    refine bodyPost_ret (results_cell_tmp rfl rfl (load_spot k7)) rfl ?_
    rw [HE.out.1, HE.out.2]
    have ho7 := ((Only.of_below H6.out.2 (fun q => q = w.heap.size + 1)).setCell (p := ⟨w.heap.size + 1, 0, none⟩) (.inl rfl) (.int .i64 ((behindS t (J.blk t k p)).1 : Int))).setCell (p := ⟨w.heap.size + 1, 1, none⟩) (.inl rfl) (.int .u64 ((behindS t (J.blk t k p)).2 : Int))
    have hz4 := H3.out.2.2.1.size
    obtain ⟨hdv, hon⟩ := dev_end H.out.1.2.2.1.fl bw4 H5.out.1.2.1 H5.out.1.2.2 ho7 (fun q hq => by subst hq; omega)
    exact ⟨rfl, hdv, hon⟩
  · have hS : putS J D t k p = (0, 0) := by unfold putS; rw [if_neg hc]
    have hcc : wcode D (J.place t : Nat) (J.blk t k p) = putC J D t k p := rfl
    rw [hcc]
    have HE := Lib.hid hS
    clear hS hcc
    obtain ⟨c, hcx⟩ : ∃ c, putC J D t k p = c := ⟨_, rfl⟩
    rw [hcx] at hc
    rw [hcx]
    have hq : (c != 0) = true := by simpa using hc
    have HC := Lib.hid hcx
    have HZ := Lib.hid (And.intro hz5 b4s)
    clear hc hcx hz5 b4s e2 e3 hz30 hsz3
    go_wp2
    have k7 : Cel ((w5.setCell ⟨w.heap.size + 1, 0, none⟩ (.int .i64 0)).setCell ⟨w.heap.size + 1, 1, none⟩ (.int .u64 0)) (w.heap.size + 1) (spotL (0, 0)) 65 := (H5.out.2.2.2.2.set 0 _).set 1 _
    refine bodyPost_ret (results_cell_tmp rfl rfl (load_spot k7)) rfl ?_
    rw [HE.out, HC.out]
    have ho7 := ((Only.refl (fun q => q = w.heap.size + 1) w5).setCell (p := ⟨w.heap.size + 1, 0, none⟩) (.inl rfl) (.int .i64 0)).setCell (p := ⟨w.heap.size + 1, 1, none⟩) (.inl rfl) (.int .u64 0)
    obtain ⟨hdv, hon⟩ := dev_end H.out.1.2.2.1.fl bw4 H5.out.1.2.1 H5.out.1.2.2 ho7 (fun q hq => by subst hq; have := HZ.out.1; omega)
    exact ⟨rfl, hdv, hon⟩
end
end Go.Proofs.Ytijkkkiejdaljaa
