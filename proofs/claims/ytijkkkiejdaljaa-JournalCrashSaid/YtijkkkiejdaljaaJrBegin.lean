/- The helper of the statements of layer 5 that lays a device, a journal and the document's journal beside each other, and the one that opens the journal once more; conditions: a case that is gone through. -/
import Derived.Test.YtijkkkiejdaljaaJrLaw
namespace Go.Proofs.Ytijkkkiejdaljaa
open Go.RowKit Go.Maps

/-- Both are held side by side; the journal holds L, the document's one holds M. -/
structure Both (w0 w : World) (b jb rb f z n s : Nat) (J : Jn) (D : Dv) (F G : Nat → Prop) (L M : List Bytes) : Prop where
  lm : LM w0 w b jb rb J D F G M J.size J.at_ J.seq
  ps : PS J D L n
  efr : J.fr = f
  esz : J.size = z
  sq : J.seq + L.length ≤ s
  one : 1 ≤ J.seq

/-- They agree; and, when k says so, no power goes. -/
def St (k : Prop) (w0 w : World) (b jb rb f z n s : Nat) : Prop := ∃ J D F G L, Both w0 w b jb rb f z n s J D F G L L ∧ (k → D.left < 0)

theorem results_four {fn : Func} {t u v x : Tmp} (h : fn.results = #[.tmp t, .tmp u, .tmp v, .tmp x]) (tmps : Array Value) (P : Program) (w : World) :
    (results fn tmps).run P w = .ok (.tuple #[tmps.getD t undef, tmps.getD u undef, tmps.getD v undef, tmps.getD x undef]) w := by
  simp [results, h]

/-- What begin answers. -/
def Begun (k : Prop) (w : World) (x : Case) (e : Ending) (w' : World) : Prop :=
  ∃ b jb rb, e = .returned (.tuple #[ptr b, ptr jb, ptr rb, .bool true]) ∧ St k w w' b jb rb (x.from_.toNat % 5) (2 + x.size.toNat % 30) 0 (x.seq + 1)

set_option maxRecDepth 100000 in
set_option maxHeartbeats 2000000 in
theorem begin_any (k : Prop) (x : Case) (w : World) (hx : CaseIn w x) (hf : FewOk x) : Calls Try.prog 9 #[caseV x] w (Begun k w x) := by
  obtain ⟨fr, sz, a, sq, lv, L⟩ := x
  obtain ⟨la, lc, hlv⟩ := hx.1.shape
  simp only at hlv
  subst hlv
  unfold Begun
  simp only
  have hq61 : (sq : Int) ≤ 2305843009213693952 := by have := hf.2.1; simp only at this; omega
  have hfr := fr.toNat_lt
  have hsz := sz.toNat_lt
  have hal := a.toNat_lt
  have hb0 := (Below.refl w.heap.size w).alloc (Nat.le_refl _) (.cells #[.int .u8 (fr.toNat : Int), .int .u8 (sz.toNat : Int), .int .u8 (a.toNat : Int), .int .u64 (sq : Int), .slice la L.length lc] 25)
  have hc0 := Cel.new w #[.int .u8 (fr.toNat : Int), .int .u8 (sz.toNat : Int), .int .u8 (a.toNat : Int), .int .u64 (sq : Int), .slice la L.length lc] 25
  clear hx hf
  go_enter Try.func9, Try.ntmps9
  go_wp2_with fail
  generalize w.alloc (.cells #[.int .u8 (fr.toNat : Int), .int .u8 (sz.toNat : Int), .int .u8 (a.toNat : Int), .int .u64 (sq : Int), .slice la L.length lc] 25) = w1 at *
  have hlt0 : w.heap.size < w1.heap.size := hc0.lt
  have efr : (fr.toNat : Int) % 5 = ((fr.toNat % 5 : Nat) : Int) := by omega
  have esz : (2 : Int) + (sz.toNat : Int) % 30 = ((2 + sz.toNat % 30 : Nat) : Int) := by omega
  rw [efr, esz]
  obtain ⟨f, hf⟩ : ∃ f, fr.toNat % 5 = f := ⟨_, rfl⟩
  obtain ⟨z, hz⟩ : ∃ z, 2 + sz.toNat % 30 = z := ⟨_, rfl⟩
  rw [hf, hz]
  have HN := Lib.hid (show f ≤ 4 ∧ 2 ≤ z ∧ z ≤ 31 by omega)
  have HF := Lib.hid (And.intro hf hz)
  have hn : (f : Int) + (z : Int) = ((f + z : Nat) : Int) := by omega
  have hnew := m_new (f + z) w1 (by have := HN.out; omega) (by have := HN.out; omega)
  rw [← hn] at hnew
  have H1 := Lib.hid (And.intro hnew (And.intro hb0 (And.intro hc0 hlt0)))
  clear hnew hb0 hc0 hn efr esz hf hz hlt0
  refine H1.out.1.mono ?_
  rintro e w2 ⟨b, rfl, F, hD, fo, hu⟩
  have hc2 := H1.out.2.2.1.kept (hu.block w.heap.size H1.out.2.2.2)
  have k2 : w2.cell? ⟨w.heap.size, 2, none⟩ = some (.int .u8 (a.toNat : Int)) := by rw [hc2.cell]; rfl
  have k3 : w2.cell? ⟨w.heap.size, 3, none⟩ = some (.int .u64 (sq : Int)) := by rw [hc2.cell]; rfl
  have hz2 : (2 : Int) ≤ (z : Int) := by have := HN.out.2.1; omega
  have hz3 : (z : Int) ≤ 31 := by have := HN.out.2.2; omega
  have hne : ¬ (z : Int) = 0 := by omega
  have ha : (a.toNat : Int) % (z : Int) = ((a.toNat % z : Nat) : Int) := by omega
  have hs1 : (sq : Int) + 1 = ((sq + 1 : Nat) : Int) := by omega
  have hbu : Below w.heap.size w w2 := H1.out.2.1.trans (hu.mono H1.out.2.1.size)
  have fo2 : ∀ q, F q → w.heap.size ≤ q := fun q hq => by have := fo q hq; have := H1.out.2.2.2; omega
  have hop := dev_open hD (show (fresh (f + z)).on = true from rfl) (clean_fresh (f + z)) (upto_fresh (f + z)) (holds_fresh (fr := f) (sz := z) (a := a.toNat % z) (s := sq + 1) (Nat.le_refl _) HN.out.2.1 (Nat.mod_lt _ (by omega)) (by omega)) ⟨by omega, by omega⟩ (fun _ hx => by cases hx)
  rw [← ha, ← hs1] at hop
  have H2 := Lib.hid (And.intro hop (And.intro hD (And.intro fo2 (And.intro hbu (And.intro hc2 (And.intro ha hs1))))))
  clear hop hD fo fo2 hu hbu hc2 ha hs1
  go_wp2_with fail
  refine H2.out.1.mono ?_
  rintro e w3 ⟨lv, G, J, rfl, hrow, hG, hj, hp, e1, e2, e3, e4, hb3⟩
  have hjm := JM.open (w0 := w) H2.out.2.1 H2.out.2.2.1 H2.out.2.2.2.1 hj hb3
  obtain ⟨pa, pc, hlv⟩ := hrow.shape
  rw [List.length_nil] at hlv
  have hc3 := H2.out.2.2.2.2.1.below hb3 H2.out.2.2.2.2.1.lt
  have k3 : w3.cell? ⟨w.heap.size, 3, none⟩ = some (.int .u64 (sq : Int)) := by rw [hc3.cell]; rfl
  have hjlt : w2.heap.size < w3.heap.size := hj.lt
  have H3 := Lib.hid (And.intro hjm (And.intro hp (And.intro (And.intro e1 (And.intro e2 (And.intro e3 e4))) hjlt)))
  generalize w2.heap.size = jb at *
  clear hrow hG hj hp e1 e2 e3 e4 hb3 hjm hc3 hjlt
  subst hlv
  go_wp2
  refine bodyPost_ret (results_four rfl _ _ _) rfl ?_
  have hcr := Cel.new w3 #[.slice none 0 0, .int .i64 (z : Int), .int .i64 ((a.toNat : Int) % (z : Int)), .int .u64 ((sq : Int) + 1)] 48
  have hbr := (Below.refl w3.heap.size w3).alloc (Nat.le_refl _) (.cells #[.slice none 0 0, .int .i64 (z : Int), .int .i64 ((a.toNat : Int) % (z : Int)), .int .u64 ((sq : Int) + 1)] 48)
  obtain ⟨hjm, hp, ⟨e1, e2, e3, e4⟩, hjlt⟩ := H3.out
  rw [HF.out.1, HF.out.2]
  refine ⟨b, jb, _, rfl, J, _, F, (fun _ => False), [], ⟨?_, hp, e1, e2, by rw [e4]; exact Nat.le_refl _, by rw [e4]; omega⟩, fun _ => by show (-1 : Int) < 0; decide⟩
  exact {
    jm := hjm.later hbr
    rat := ⟨⟨_, by rw [e2, e3, e4, ← H2.out.2.2.2.2.2.1, ← H2.out.2.2.2.2.2.2]; exact hcr, RowG.nil _ _⟩, id, fun q hq => hq.elim⟩
    go := fun q hq => hq.elim
    ro := by have := hjm.under.size; omega
    rF := fun hf => by have := hjm.dev.fl _ hf; omega
    GF := fun q hq => hq.elim
    jr := by omega
    jG := id }

/-- What is opened once more. -/
def Again (w0 w : World) (b rb f n : Nat) (D : Dv) (F G : Nat → Prop) (L M : List Bytes) (sz fi sq : Nat) (e : Ending) (w' : World) : Prop :=
  ∃ jb lv H J, e = .returned (.tuple #[ptr jb, lv, err 0]) ∧ RowG w' H lv L ∧ (∀ q, H q → w.heap.size ≤ q) ∧ LM w0 w' b jb rb J D F G M sz fi sq ∧ PS J D L n ∧ J.fr = f ∧ J.size = sz ∧ J.at_ = fi ∧ J.seq = sq ∧ Below w.heap.size w w'

set_option maxRecDepth 100000 in
set_option maxHeartbeats 4000000 in
theorem again_any {w0 w : World} {b jb rb n : Nat} {J : Jn} {D : Dv} {F G : Nat → Prop} {L M : List Bytes} {sz fi sq : Nat} (x : Case) (h : LM w0 w b jb rb J D F G M sz fi sq)
    (ho : D.on = true) (hc : Clean D.bk) (hu : Upto D n) (hh : Holds (x.from_.toNat % 5) sz fi sq D.bk L) (hs : 1 ≤ sq ∧ sq ≤ 4611686018427387904) (hl : ∀ l ∈ L, l.length ≤ 1000000) :
    Calls Try.prog 17 #[ptr b, caseV x, ptr rb] w (Again w0 w b rb (x.from_.toNat % 5) n D F G L M sz fi sq) := by
  obtain ⟨fr, xsz, a, xsq, lv, xL⟩ := x
  simp only at hh ⊢
  have hz : sz ≤ 4096 := by
    have := hh.fits
    obtain ⟨_, _, _, _, _, hd⟩ := h.jm.dev
    have := hd.few
    omega
  have hz2 : (2 : Int) ≤ sz := by have := hh.two; omega
  have hz3 : (sz : Int) ≤ 4096 := by omega
  have hf1 : (fi : Int) < sz := by have := hh.atl; omega
  have hfr := fr.toNat_lt
  have hb0 := (Below.refl w.heap.size w).alloc (Nat.le_refl _) (.cells #[.int .u8 (fr.toNat : Int), .int .u8 (xsz.toNat : Int), .int .u8 (a.toNat : Int), .int .u64 (xsq : Int), lv] 25)
  have hc0 := Cel.new w #[.int .u8 (fr.toNat : Int), .int .u8 (xsz.toNat : Int), .int .u8 (a.toNat : Int), .int .u64 (xsq : Int), lv] 25
  have hm0 := h.later hb0
  have H0 := Lib.hid (And.intro hb0 (And.intro hc0 (And.intro hm0 (And.intro ho (And.intro hc (And.intro hu (And.intro hh (And.intro hs hl))))))))
  clear hb0 hc0 hm0 h ho hc hu hh hs hl hz
  go_enter Try.func17, Try.ntmps17
  go_wp2
  generalize w.alloc (.cells #[.int .u8 (fr.toNat : Int), .int .u8 (xsz.toNat : Int), .int .u8 (a.toNat : Int), .int .u64 (xsq : Int), lv] 25) = w1 at *
  obtain ⟨rv, hcr, hrr⟩ := H0.out.2.2.1.rat.ex
  have HX := Lib.hid (fun (W : World) (hW : W.heap[w.heap.size]? = w1.heap[w.heap.size]? ∧ W.heap[rb]? = w1.heap[rb]?) => And.intro (show W.cell? ⟨w.heap.size, 0, none⟩ = some (.int .u8 (fr.toNat : Int)) by rw [(H0.out.2.1.kept hW.1).cell]; rfl)
    (And.intro (show W.cell? ⟨rb, 1, none⟩ = some (.int .i64 (sz : Int)) by rw [(hcr.kept hW.2).cell]; rfl) (And.intro (show W.cell? ⟨rb, 2, none⟩ = some (.int .i64 (fi : Int)) by rw [(hcr.kept hW.2).cell]; rfl) (show W.cell? ⟨rb, 3, none⟩ = some (.int .u64 (sq : Int)) by rw [(hcr.kept hW.2).cell]; rfl))))
  clear hcr hrr
  refine region_till 99 (fun W => W.heap[w.heap.size]? = w1.heap[w.heap.size]? ∧ W.heap[rb]? = w1.heap[rb]?) (by kernel_rfl) ⟨rfl, rfl⟩ (fun hS => ?_)
  refine take_till (i := 0) (some 9) (ptr b) rfl rfl (by kernel_rfl) (by kernel_rfl) (by kernel_rfl) (by kernel_rfl) (by decide) (fun _ _ _ h => h) (by rfl) (fun W hW => ?_) hS ?_
  · obtain ⟨c0, c1, c2, c3⟩ := HX.out W hW
    clear hW
    go_simp
  simp only [Act.put, List.setIfInBounds_toArray, List.set_cons_zero, List.set_cons_succ]
  refine take_till (i := 1) (some 10) (.pointer (some ⟨w.heap.size, 0, none⟩)) rfl rfl (by kernel_rfl) (by kernel_rfl) (by kernel_rfl) (by kernel_rfl) (by decide) (fun _ _ _ h => h) (by rfl) (fun W hW => ?_) hS ?_
  · obtain ⟨c0, c1, c2, c3⟩ := HX.out W hW
    clear hW
    go_simp
  simp only [Act.put, List.setIfInBounds_toArray, List.set_cons_zero, List.set_cons_succ]
  refine take_till (i := 2) (some 11) (.int .u8 (fr.toNat : Int)) rfl rfl (by kernel_rfl) (by kernel_rfl) (by kernel_rfl) (by kernel_rfl) (by decide) (fun _ _ _ h => h) (by rfl) (fun W hW => ?_) hS ?_
  · obtain ⟨c0, c1, c2, c3⟩ := HX.out W hW
    clear hW
    go_simp
  simp only [Act.put, List.setIfInBounds_toArray, List.set_cons_zero, List.set_cons_succ]
  refine take_till (i := 3) (some 12) (.int .i64 (fr.toNat : Int)) rfl rfl (by kernel_rfl) (by kernel_rfl) (by kernel_rfl) (by kernel_rfl) (by decide) (fun _ _ _ h => h) (by rfl) (fun W hW => ?_) hS ?_
  · obtain ⟨c0, c1, c2, c3⟩ := HX.out W hW
    clear hW
    go_simp
    exact IntWalk.i64_in _ (by omega)
  simp only [Act.put, List.setIfInBounds_toArray, List.set_cons_zero, List.set_cons_succ]
  refine take_till (i := 4) (some 13) (.int .i64 ((fr.toNat % 5 : Nat) : Int)) rfl rfl (by kernel_rfl) (by kernel_rfl) (by kernel_rfl) (by kernel_rfl) (by decide) (fun _ _ _ h => h) (by rfl) (fun W hW => ?_) hS ?_
  · obtain ⟨c0, c1, c2, c3⟩ := HX.out W hW
    clear hW
    go_simp
    exact Int.tmod_eq_emod_of_nonneg (by omega)
  simp only [Act.put, List.setIfInBounds_toArray, List.set_cons_zero, List.set_cons_succ]
  refine take_till (i := 5) (some 14) (ptr rb) rfl rfl (by kernel_rfl) (by kernel_rfl) (by kernel_rfl) (by kernel_rfl) (by decide) (fun _ _ _ h => h) (by rfl) (fun W hW => ?_) hS ?_
  · obtain ⟨c0, c1, c2, c3⟩ := HX.out W hW
    clear hW
    go_simp
  simp only [Act.put, List.setIfInBounds_toArray, List.set_cons_zero, List.set_cons_succ]
  refine take_till (i := 6) (some 15) (ptr rb) rfl rfl (by kernel_rfl) (by kernel_rfl) (by kernel_rfl) (by kernel_rfl) (by decide) (fun _ _ _ h => h) (by rfl) (fun W hW => ?_) hS ?_
  · obtain ⟨c0, c1, c2, c3⟩ := HX.out W hW
    clear hW
    go_simp
  simp only [Act.put, List.setIfInBounds_toArray, List.set_cons_zero, List.set_cons_succ]
  refine take_till (i := 7) (some 16) (.pointer (some ⟨rb, 1, none⟩)) rfl rfl (by kernel_rfl) (by kernel_rfl) (by kernel_rfl) (by kernel_rfl) (by decide) (fun _ _ _ h => h) (by rfl) (fun W hW => ?_) hS ?_
  · obtain ⟨c0, c1, c2, c3⟩ := HX.out W hW
    clear hW
    go_simp
  simp only [Act.put, List.setIfInBounds_toArray, List.set_cons_zero, List.set_cons_succ]
  refine take_till (i := 8) (some 17) (.int .i64 (sz : Int)) rfl rfl (by kernel_rfl) (by kernel_rfl) (by kernel_rfl) (by kernel_rfl) (by decide) (fun _ _ _ h => h) (by rfl) (fun W hW => ?_) hS ?_
  · obtain ⟨c0, c1, c2, c3⟩ := HX.out W hW
    clear hW
    go_simp
  simp only [Act.put, List.setIfInBounds_toArray, List.set_cons_zero, List.set_cons_succ]
  refine take_till (i := 9) (some 18) (ptr rb) rfl rfl (by kernel_rfl) (by kernel_rfl) (by kernel_rfl) (by kernel_rfl) (by decide) (fun _ _ _ h => h) (by rfl) (fun W hW => ?_) hS ?_
  · obtain ⟨c0, c1, c2, c3⟩ := HX.out W hW
    clear hW
    go_simp
  simp only [Act.put, List.setIfInBounds_toArray, List.set_cons_zero, List.set_cons_succ]
  refine take_till (i := 10) (some 19) (ptr rb) rfl rfl (by kernel_rfl) (by kernel_rfl) (by kernel_rfl) (by kernel_rfl) (by decide) (fun _ _ _ h => h) (by rfl) (fun W hW => ?_) hS ?_
  · obtain ⟨c0, c1, c2, c3⟩ := HX.out W hW
    clear hW
    go_simp
  simp only [Act.put, List.setIfInBounds_toArray, List.set_cons_zero, List.set_cons_succ]
  refine take_till (i := 11) (some 20) (.pointer (some ⟨rb, 2, none⟩)) rfl rfl (by kernel_rfl) (by kernel_rfl) (by kernel_rfl) (by kernel_rfl) (by decide) (fun _ _ _ h => h) (by rfl) (fun W hW => ?_) hS ?_
  · obtain ⟨c0, c1, c2, c3⟩ := HX.out W hW
    clear hW
    go_simp
  simp only [Act.put, List.setIfInBounds_toArray, List.set_cons_zero, List.set_cons_succ]
  refine take_till (i := 12) (some 21) (.int .i64 (fi : Int)) rfl rfl (by kernel_rfl) (by kernel_rfl) (by kernel_rfl) (by kernel_rfl) (by decide) (fun _ _ _ h => h) (by rfl) (fun W hW => ?_) hS ?_
  · obtain ⟨c0, c1, c2, c3⟩ := HX.out W hW
    clear hW
    go_simp
  simp only [Act.put, List.setIfInBounds_toArray, List.set_cons_zero, List.set_cons_succ]
  refine take_till (i := 13) (some 22) (ptr rb) rfl rfl (by kernel_rfl) (by kernel_rfl) (by kernel_rfl) (by kernel_rfl) (by decide) (fun _ _ _ h => h) (by rfl) (fun W hW => ?_) hS ?_
  · obtain ⟨c0, c1, c2, c3⟩ := HX.out W hW
    clear hW
    go_simp
  simp only [Act.put, List.setIfInBounds_toArray, List.set_cons_zero, List.set_cons_succ]
  refine take_till (i := 14) (some 23) (ptr rb) rfl rfl (by kernel_rfl) (by kernel_rfl) (by kernel_rfl) (by kernel_rfl) (by decide) (fun _ _ _ h => h) (by rfl) (fun W hW => ?_) hS ?_
  · obtain ⟨c0, c1, c2, c3⟩ := HX.out W hW
    clear hW
    go_simp
  simp only [Act.put, List.setIfInBounds_toArray, List.set_cons_zero, List.set_cons_succ]
  refine take_till (i := 15) (some 24) (.pointer (some ⟨rb, 3, none⟩)) rfl rfl (by kernel_rfl) (by kernel_rfl) (by kernel_rfl) (by kernel_rfl) (by decide) (fun _ _ _ h => h) (by rfl) (fun W hW => ?_) hS ?_
  · obtain ⟨c0, c1, c2, c3⟩ := HX.out W hW
    clear hW
    go_simp
  simp only [Act.put, List.setIfInBounds_toArray, List.set_cons_zero, List.set_cons_succ]
  refine take_till (i := 16) (some 25) (.int .u64 (sq : Int)) rfl rfl (by kernel_rfl) (by kernel_rfl) (by kernel_rfl) (by kernel_rfl) (by decide) (fun _ _ _ h => h) (by rfl) (fun W hW => ?_) hS ?_
  · obtain ⟨c0, c1, c2, c3⟩ := HX.out W hW
    clear hW
    go_simp
  simp only [Act.put, List.setIfInBounds_toArray, List.set_cons_zero, List.set_cons_succ]
  refine next_till 17 (by kernel_rfl) rfl (fun K hK => ?_)
  go_simp
  have e5 : (fr.toNat : Int) % 5 = ((fr.toNat % 5 : Nat) : Int) := by omega
  rw [e5]
  obtain ⟨hb0, hc0, hm0, ho, hc, hu, hh, hs, hl⟩ := H0.out
  have hbd : Below w1.heap.size w1 w1.drew := below_drewN (Below.refl w1.heap.size w1) 1
  have hmd := hm0.later hbd
  refine (dev_open hmd.jm.dev ho hc hu hh hs hl).mono ?_
  rintro e w2 ⟨l2, H, J2, rfl, hrow, hH, hj, hp, e1, e2, e3, e4, hb2⟩
  have hb12 : Below w1.heap.size w1 w2 := hbd.trans hb2
  have S2 : w2.heap[w.heap.size]? = w1.heap[w.heap.size]? ∧ w2.heap[rb]? = w1.heap[rb]? := ⟨hb12.block _ hc0.lt, hb12.block _ hm0.rat.lt⟩
  have hz1 : w.heap.size ≤ w1.heap.size := hb0.size
  have H2 := Lib.hid (And.intro hrow (And.intro (show ∀ q, H q → w.heap.size ≤ q from fun q hq => by have := hH q hq; have : w1.drew.heap.size = w1.heap.size := rfl; omega) (And.intro (hmd.newj hj hb2) (And.intro hp (And.intro e1 (And.intro e2 (And.intro e3 (And.intro e4 (hb0.trans (hb12.mono hz1))))))))))
  obtain ⟨pa, pc, hlv⟩ := hrow.shape
  refine hK.out _ _ (fun _ => S2) ?_
  clear hK K hS hb0 hc0 hm0 ho hc hu hh hs hl hbd hmd hrow hH hj hp e1 e2 e3 e4 hb2 hb12 hz1 HX e5 H0
  generalize w1.drew.heap.size = jb2 at *
  subst hlv
  have hS := S2
  refine take_till (i := 18) (some 27) (ptr jb2) rfl rfl (by kernel_rfl) (by kernel_rfl) (by kernel_rfl) (by kernel_rfl) (by decide) (fun _ _ _ h => h) (by rfl) (fun W hW => ?_) hS ?_
  · skip
    clear hW
    go_simp
  simp only [Act.put, List.setIfInBounds_toArray, List.set_cons_zero, List.set_cons_succ]
  refine take_till (i := 19) (some 28) (.slice pa L.length pc) rfl rfl (by kernel_rfl) (by kernel_rfl) (by kernel_rfl) (by kernel_rfl) (by decide) (fun _ _ _ h => h) (by rfl) (fun W hW => ?_) hS ?_
  · skip
    clear hW
    go_simp
  simp only [Act.put, List.setIfInBounds_toArray, List.set_cons_zero, List.set_cons_succ]
  refine take_till (i := 20) (some 29) (err 0) rfl rfl (by kernel_rfl) (by kernel_rfl) (by kernel_rfl) (by kernel_rfl) (by decide) (fun _ _ _ h => h) (by rfl) (fun W hW => ?_) hS ?_
  · skip
    clear hW
    go_simp
  simp only [Act.put, List.setIfInBounds_toArray, List.set_cons_zero, List.set_cons_succ]
  refine take_till (i := 21) (some 6) (ptr jb2) rfl rfl (by kernel_rfl) (by kernel_rfl) (by kernel_rfl) (by kernel_rfl) (by decide) (fun _ _ _ h => h) (by rfl) (fun W hW => ?_) hS ?_
  · skip
    clear hW
    go_simp
  simp only [Act.put, List.setIfInBounds_toArray, List.set_cons_zero, List.set_cons_succ]
  refine take_till (i := 22) (some 7) (.slice pa L.length pc) rfl rfl (by kernel_rfl) (by kernel_rfl) (by kernel_rfl) (by kernel_rfl) (by decide) (fun _ _ _ h => h) (by rfl) (fun W hW => ?_) hS ?_
  · skip
    clear hW
    go_simp
  simp only [Act.put, List.setIfInBounds_toArray, List.set_cons_zero, List.set_cons_succ]
  refine next_till 23 (by kernel_rfl) rfl (fun K hK => ?_)
  go_simp
  refine hK.out _ _ (fun _ => S2) ?_
  clear hK K
  refine done_till (by kernel_rfl) ?_ _
  clear S2 hS
  go_wp2
  go_ret3
  obtain ⟨hrow, hH, hm, hp, e1, e2, e3, e4, hb⟩ := H2.out
  exact ⟨jb2, _, H, J2, rfl, hrow, hH, hm, hp, e1, e2, e3, e4, hb⟩
end Go.Proofs.Ytijkkkiejdaljaa
