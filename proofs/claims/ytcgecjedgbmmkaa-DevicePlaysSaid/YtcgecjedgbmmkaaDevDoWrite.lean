/- The step Write by both devices; conditions: both lie in memory, with the same content. -/
import Derived.Test.YtcgecjedgbmmkaaDevDo
namespace Go.Proofs.Ytcgecjedgbmmkaa
open Go.RowKit Go.Maps

theorem row_only {w w' : World} {base n size : Nat} {e : TypeId} {v : Value} {xs : List Value} {S : Nat → Prop} (h : w.ownsRow base e size v n xs) (ho : Only S w w') (hS : ∀ q, v.ownBlock = some q → ¬ S q) : w'.ownsRow base e size v n xs := by
  refine ⟨h.1, h.2.imp id fun ⟨q, cap, cur, e1, e2, e3, r⟩ => ⟨q, cap, cur, e1, e2, ?_, r⟩⟩
  rw [ho.block q ((Array.getElem?_eq_some_iff.1 e3).1) (hS q (by rw [e1]; rfl))]
  exact e3

section
variable {w0 w : World} {b r : Nat} {D : Dv} {F G : Nat → Prop} {n : Nat} {k m : Int} {pv : Value}

set_option maxRecDepth 100000 in
set_option maxHeartbeats 1000000 in
theorem do_write_false (h : Two w0 w b r D D F G) (hu : Upto D n) (hn : n < 1000000) (c la : UInt8) : Calls Try.prog 11 #[ptr b, ptr r, stepV 1 k m (c.toNat : Int) (la.toNat : Int) false pv] w (Does w0 b r D n) := by
  obtain ⟨h1, hc, nF, nG⟩ := boxed_two h 1 k m (c.toNat : Int) (la.toNat : Int) false pv
  have hs : Small D := hu.small (by omega)
  have z1 : (boxed w 1 k m (c.toNat : Int) (la.toNat : Int) false pv).heap.size = w.heap.size + 1 := by simp
  have HU := Lib.hid (And.intro hu (And.intro hs (And.intro h.dev.fl h.ref.fl)))
  have q3 : (boxed w 1 k m (c.toNat : Int) (la.toNat : Int) false pv).cell? ⟨w.heap.size, 3, none⟩ = some (.int .u8 (c.toNat : Int)) := by rw [hc.cell]; rfl
  have q4 : (boxed w 1 k m (c.toNat : Int) (la.toNat : Int) false pv).cell? ⟨w.heap.size, 4, none⟩ = some (.int .u8 (la.toNat : Int)) := by rw [hc.cell]; rfl
  have HC := Lib.hid (And.intro hc z1)
  clear h hu hs hc z1
  go_enter Try.func11, Try.ntmps11
  go_wp2_with fail
  refine (filled_any c la _).mono ?_
  rintro e w2 ⟨gb, rfl, hcb, hgb, hb2⟩
  have h2 := h1.later hb2
  have c2 := HC.out.1.below hb2 HC.out.1.lt
  have q1 : w2.cell? ⟨w.heap.size, 1, none⟩ = some (.int .i64 k) := by rw [c2.cell]; rfl
  have q5 : w2.cell? ⟨w.heap.size, 5, none⟩ = some (.bool false) := by rw [c2.cell]; rfl
  have hlen := filled_length c la
  have hbsb : Bs w2 (.slice (some ⟨gb, 0, none⟩) 512 512) (filled c la) := by
    exact Blk.bs ⟨gb, rfl, hcb, hlen⟩
  have hln : (filled c la).length = 512 := by exact hlen
  have hgb' : w.heap.size + 1 ≤ gb := Nat.le_trans (Nat.le_of_eq HC.out.2.symm) hgb
  have hone := ow_empty w2
  have H2 := Lib.hid (And.intro h2 (And.intro c2 (And.intro hbsb (And.intro hln (And.intro hgb' hcb.lt)))))
  clear h1 h2 c2 q3 q4 hcb hgb hb2 hlen hbsb hln hgb'
  generalize filled c la = LB at *
  go_wp2_with (at_builtin; refine wpList_append_bs bt rfl (.tmp 33) (.tmp 34) rfl w2.heap.size rfl rfl hone (H2.out.2.2.1.alloc _) (by have := H2.out.2.2.2.1; simp; omega) (by simp) ?_)
  intro vo w3 hown hg3
  have hb3 : Below w2.heap.size w2 w3 := ((Below.refl _ _).alloc (Nat.le_refl _) _).grown hg3 (by simp) (fun q e => by cases e; exact Nat.le_refl _)
  have h3 := H2.out.1.later hb3
  have c3 := H2.out.2.1.below hb3 H2.out.2.1.lt
  have p1 : w3.cell? ⟨w.heap.size, 1, none⟩ = some (.int .i64 k) := by rw [c3.cell]; rfl
  obtain ⟨go, co, rfl, hgo⟩ := hown.form (by have := H2.out.2.2.2.1; omega)
  have hgoF : ∀ q, (Value.slice (some ⟨go, 0, none⟩) (LB).length co).ownBlock = some q → ¬ F q := fun q e hf => by
    have e' : go = q := Option.some.inj e
    subst e'
    have := HU.out.2.2.1 _ hf
    have := H2.out.2.2.2.2
    omega
  have hln := H2.out.2.2.2.1
  have hbsb3 := H2.out.2.2.1.below hb3
  have hdw := dwrite_any h3.dev HU.out.2.1 k hown.bs hgoF
  rw [hln] at hdw
  rw [hln] at hown hgoF ⊢
  have H3 := Lib.hid (And.intro h3 (And.intro c3 (And.intro hown (And.intro hbsb3 hgo))))
  clear hg3 hb3 h3 c3 hown hbsb3 hgo hgoF hln q1 q5 hone
  go_wp2_with fail
  refine hdw.mono ?_
  rintro e w4 ⟨rfl, hd, ho⟩
  clear hdw
  obtain ⟨h3, c3, hown, hbsb3, hgo⟩ := H3.out
  have hgl := (hown.lt go rfl).2
  have hgbl := H2.out.2.2.2.2
  have h4 := h3.dstep hd ho
  have c4 := c3.only ho nF
  have hgoF : ¬ F go := fun hf => by have := HU.out.2.2.1 _ hf; omega
  have hown4 : Ow w4 w2.heap.size 5 (.slice (some ⟨go, 0, none⟩) 512 co) (LB) := row_only hown ho (fun q e => by cases e; exact hgoF)
  have hgbF : ¬ F gb := fun hf => by have := HU.out.2.2.1 _ hf; omega
  have hbsb4 := hbsb3.only ho (fun q e => by cases e; exact hgbF)
  obtain ⟨o0, f0, -⟩ := hown4.at 0 (by rw [H2.out.2.2.2.1]; omega)
  obtain ⟨z, hz⟩ : ∃ z : Int, w4.cell? ⟨go, 0, none⟩ = some (.int .u8 z) := ⟨_, o0⟩
  clear o0
  have hgne : go ≠ w.heap.size := by omega
  have ho5 : ∀ u, Only (· = go) w4 (w4.setCell ⟨go, 0, none⟩ u) := fun u => (Only.refl (· = go) w4).setCell (p := ⟨go, 0, none⟩) (.inl rfl) u
  have h5 : ∀ u, Two w0 (w4.setCell ⟨go, 0, none⟩ u) b r (wdev D k (LB)) D (Grow F w3 w4) G := fun u => h4.other (ho5 u) (fun q e => by
    subst e
    refine ⟨?_, fun hf => ?_, fun hf => ?_⟩
    · have := h3.fo _ h3.dev.fb
      have := HU.out.2.2.1 _ h3.dev.fb
      omega
    · rcases hf with hf | hf
      · exact hgoF hf
      · omega
    · have := HU.out.2.2.2 _ hf
      omega)
  have hbs5 : ∀ u, Bs (w4.setCell ⟨go, 0, none⟩ u) (.slice (some ⟨gb, 0, none⟩) 512 512) (LB) := fun u => hbsb4.only (ho5 u) (fun q e e' => by have e2 : gb = q := Option.some.inj e; omega)
  have p5 : ∀ u, (w4.setCell ⟨go, 0, none⟩ u).cell? ⟨w.heap.size, 1, none⟩ = some (.int .i64 k) := fun u => by rw [(c4.only (ho5 u) (fun e => hgne e.symm)).cell]; rfl
  have hgbG : ¬ G gb := fun hf => by have := HU.out.2.2.2 _ hf; omega
  have H5 := Lib.hid (And.intro h5 (And.intro hbs5 hgbG))
  clear h3 c3 hown hbsb3 hgo h4 c4 hown4 hbsb4 ho5 h5 hbs5 hd ho p1 hgbG hgbF
  go_wp2_with fail
  refine (rwrite_any (H5.out.1 _).ref HU.out.2.1 k (H5.out.2.1 _) (fun q e => by cases e; exact H5.out.2.2)).mono ?_
  rintro e w6 ⟨rfl, hr, hor⟩
  have h6 := (H5.out.1 _).rstep hr hor
  clear hr hor
  go_wp2
  go_ret
  exact ⟨rfl, _, _, _, h6, wdev_upto HU.out.1 k _⟩

set_option maxRecDepth 100000 in
set_option maxHeartbeats 1000000 in
theorem do_write_true (h : Two w0 w b r D D F G) (hu : Upto D n) (hn : n < 1000000) (c la : UInt8) : Calls Try.prog 11 #[ptr b, ptr r, stepV 1 k m (c.toNat : Int) (la.toNat : Int) true pv] w (Does w0 b r D n) := by
  obtain ⟨h1, hc, nF, nG⟩ := boxed_two h 1 k m (c.toNat : Int) (la.toNat : Int) true pv
  have hs : Small D := hu.small (by omega)
  have z1 : (boxed w 1 k m (c.toNat : Int) (la.toNat : Int) true pv).heap.size = w.heap.size + 1 := by simp
  have HU := Lib.hid (And.intro hu (And.intro hs (And.intro h.dev.fl h.ref.fl)))
  have q3 : (boxed w 1 k m (c.toNat : Int) (la.toNat : Int) true pv).cell? ⟨w.heap.size, 3, none⟩ = some (.int .u8 (c.toNat : Int)) := by rw [hc.cell]; rfl
  have q4 : (boxed w 1 k m (c.toNat : Int) (la.toNat : Int) true pv).cell? ⟨w.heap.size, 4, none⟩ = some (.int .u8 (la.toNat : Int)) := by rw [hc.cell]; rfl
  have HC := Lib.hid (And.intro hc z1)
  clear h hu hs hc z1
  go_enter Try.func11, Try.ntmps11
  go_wp2_with fail
  refine (filled_any c la _).mono ?_
  rintro e w2 ⟨gb, rfl, hcb, hgb, hb2⟩
  have h2 := h1.later hb2
  have c2 := HC.out.1.below hb2 HC.out.1.lt
  have q1 : w2.cell? ⟨w.heap.size, 1, none⟩ = some (.int .i64 k) := by rw [c2.cell]; rfl
  have q5 : w2.cell? ⟨w.heap.size, 5, none⟩ = some (.bool true) := by rw [c2.cell]; rfl
  have hlen := filled_length c la
  have hbsb : Bs w2 (.slice (some ⟨gb, 0, none⟩) 511 512) ((filled c la).take 511) := by
    refine ⟨some ⟨gb, 0, none⟩, 512, by simp [hlen], by simp [hlen], by unfold maxLen; omega, (fun e => by cases e), fun ad had i u hu => ?_⟩
    cases had
    rw [Addr.add_lit, Nat.zero_add, hcb.cell]
    have hi := (List.getElem?_eq_some_iff.1 hu).1
    rw [bvs, List.length_map, List.length_take] at hi
    rw [bvs, List.map_take, List.getElem?_take_of_lt (by omega)] at hu
    exact hu
  have hln : ((filled c la).take 511).length = 511 := by simp [hlen]
  have hgb' : w.heap.size + 1 ≤ gb := Nat.le_trans (Nat.le_of_eq HC.out.2.symm) hgb
  have hone := ow_empty w2
  have H2 := Lib.hid (And.intro h2 (And.intro c2 (And.intro hbsb (And.intro hln (And.intro hgb' hcb.lt)))))
  clear h1 h2 c2 q3 q4 hcb hgb hb2 hlen hbsb hln hgb'
  generalize filled c la = LB at *
  go_wp2_with (at_builtin; refine wpList_append_bs bt rfl (.tmp 33) (.tmp 34) rfl w2.heap.size rfl rfl hone (H2.out.2.2.1.alloc _) (by have := H2.out.2.2.2.1; simp; omega) (by simp) ?_)
  intro vo w3 hown hg3
  have hb3 : Below w2.heap.size w2 w3 := ((Below.refl _ _).alloc (Nat.le_refl _) _).grown hg3 (by simp) (fun q e => by cases e; exact Nat.le_refl _)
  have h3 := H2.out.1.later hb3
  have c3 := H2.out.2.1.below hb3 H2.out.2.1.lt
  have p1 : w3.cell? ⟨w.heap.size, 1, none⟩ = some (.int .i64 k) := by rw [c3.cell]; rfl
  obtain ⟨go, co, rfl, hgo⟩ := hown.form (by have := H2.out.2.2.2.1; omega)
  have hgoF : ∀ q, (Value.slice (some ⟨go, 0, none⟩) ((LB).take 511).length co).ownBlock = some q → ¬ F q := fun q e hf => by
    have e' : go = q := Option.some.inj e
    subst e'
    have := HU.out.2.2.1 _ hf
    have := H2.out.2.2.2.2
    omega
  have hln := H2.out.2.2.2.1
  have hbsb3 := H2.out.2.2.1.below hb3
  have hdw := dwrite_any h3.dev HU.out.2.1 k hown.bs hgoF
  rw [hln] at hdw
  rw [hln] at hown hgoF ⊢
  have H3 := Lib.hid (And.intro h3 (And.intro c3 (And.intro hown (And.intro hbsb3 hgo))))
  clear hg3 hb3 h3 c3 hown hbsb3 hgo hgoF hln q1 q5 hone
  go_wp2_with fail
  refine hdw.mono ?_
  rintro e w4 ⟨rfl, hd, ho⟩
  clear hdw
  obtain ⟨h3, c3, hown, hbsb3, hgo⟩ := H3.out
  have hgl := (hown.lt go rfl).2
  have hgbl := H2.out.2.2.2.2
  have h4 := h3.dstep hd ho
  have c4 := c3.only ho nF
  have hgoF : ¬ F go := fun hf => by have := HU.out.2.2.1 _ hf; omega
  have hown4 : Ow w4 w2.heap.size 5 (.slice (some ⟨go, 0, none⟩) 511 co) ((LB).take 511) := row_only hown ho (fun q e => by cases e; exact hgoF)
  have hgbF : ¬ F gb := fun hf => by have := HU.out.2.2.1 _ hf; omega
  have hbsb4 := hbsb3.only ho (fun q e => by cases e; exact hgbF)
  obtain ⟨o0, f0, -⟩ := hown4.at 0 (by rw [H2.out.2.2.2.1]; omega)
  obtain ⟨z, hz⟩ : ∃ z : Int, w4.cell? ⟨go, 0, none⟩ = some (.int .u8 z) := ⟨_, o0⟩
  clear o0
  have hgne : go ≠ w.heap.size := by omega
  have ho5 : ∀ u, Only (· = go) w4 (w4.setCell ⟨go, 0, none⟩ u) := fun u => (Only.refl (· = go) w4).setCell (p := ⟨go, 0, none⟩) (.inl rfl) u
  have h5 : ∀ u, Two w0 (w4.setCell ⟨go, 0, none⟩ u) b r (wdev D k ((LB).take 511)) D (Grow F w3 w4) G := fun u => h4.other (ho5 u) (fun q e => by
    subst e
    refine ⟨?_, fun hf => ?_, fun hf => ?_⟩
    · have := h3.fo _ h3.dev.fb
      have := HU.out.2.2.1 _ h3.dev.fb
      omega
    · rcases hf with hf | hf
      · exact hgoF hf
      · omega
    · have := HU.out.2.2.2 _ hf
      omega)
  have hbs5 : ∀ u, Bs (w4.setCell ⟨go, 0, none⟩ u) (.slice (some ⟨gb, 0, none⟩) 511 512) ((LB).take 511) := fun u => hbsb4.only (ho5 u) (fun q e e' => by have e2 : gb = q := Option.some.inj e; omega)
  have p5 : ∀ u, (w4.setCell ⟨go, 0, none⟩ u).cell? ⟨w.heap.size, 1, none⟩ = some (.int .i64 k) := fun u => by rw [(c4.only (ho5 u) (fun e => hgne e.symm)).cell]; rfl
  have hgbG : ¬ G gb := fun hf => by have := HU.out.2.2.2 _ hf; omega
  have H5 := Lib.hid (And.intro h5 (And.intro hbs5 hgbG))
  clear h3 c3 hown hbsb3 hgo h4 c4 hown4 hbsb4 ho5 h5 hbs5 hd ho p1 hgbG hgbF
  go_wp2_with fail
  refine (rwrite_any (H5.out.1 _).ref HU.out.2.1 k (H5.out.2.1 _) (fun q e => by cases e; exact H5.out.2.2)).mono ?_
  rintro e w6 ⟨rfl, hr, hor⟩
  have h6 := (H5.out.1 _).rstep hr hor
  clear hr hor
  go_wp2
  go_ret
  exact ⟨rfl, _, _, _, h6, wdev_upto HU.out.1 k _⟩
end
end Go.Proofs.Ytcgecjedgbmmkaa
