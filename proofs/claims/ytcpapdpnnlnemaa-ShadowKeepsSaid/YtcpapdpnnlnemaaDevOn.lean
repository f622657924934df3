/- On of a device: what is kept of what was loose; conditions: a device lies in memory, or the pointer is nil; fewer than 2^32 things are loose in each block; the picks lie elsewhere. -/
import Derived.Test.YtcpapdpnnlnemaaDevFlush
namespace Go.Proofs.Ytcpapdpnnlnemaa
open Go.RowKit Go.Maps

/-- The value is a slice that reads as these numbers. -/
def Iv (w : World) (v : Value) (l : List Int) : Prop :=
  ∃ a cap, v = .slice a l.length cap ∧ l.length ≤ 9223372036854775807 ∧ (a = none → l = []) ∧ (∀ ad, a = some ad → ∀ (i : Nat) (u : Int), l[i]? = some u → w.cell? (ad.add i) = some (.int .i64 u)) ∧ ∀ u ∈ l, -9223372036854775808 ≤ u ∧ u ≤ 9223372036854775807

theorem Iv.nil (w : World) : Iv w nilSl [] := ⟨none, 0, rfl, by simp, fun _ => rfl, (fun _ h => by cases h), (fun u h => by cases h)⟩
theorem Iv.shape {w : World} {v : Value} {l : List Int} (h : Iv w v l) : ∃ a cap, v = .slice a l.length cap := let ⟨a, cap, e, _⟩ := h; ⟨a, cap, e⟩
theorem Iv.kept {w w' : World} {v : Value} {l : List Int} (h : Iv w v l) (hk : ∀ q, v.ownBlock = some q → l ≠ [] → q < w.heap.size → w'.heap[q]? = w.heap[q]?) : Iv w' v l := by
  obtain ⟨a, cap, rfl, h1, h2, h3, h4⟩ := h
  refine ⟨a, cap, rfl, h1, h2, fun ad had i u hu => ?_, h4⟩
  subst had
  have hc := h3 _ rfl i u hu
  have hblk : (ad.add i).block = ad.block := by
    unfold Addr.add
    split <;> rfl
  have hlt := World.block_lt_of_cell? w _ hc
  exact (World.cell?_of_block (w := w) (a := ad.add i) (by rw [hblk] at hlt ⊢; exact hk _ rfl (fun e => by rw [e] at hu; simp at hu) hlt)).trans hc
theorem Iv.open {w : World} {v : Value} {l : List Int} (h : Iv w v l) {i : Nat} {u : Int} (hu : l[i]? = some u) : ∃ g o cap, v = .slice (some ⟨g, o, none⟩) l.length cap ∧ w.cell? ⟨g, o + i, none⟩ = some (.int .i64 u) ∧ -9223372036854775808 ≤ u ∧ u ≤ 9223372036854775807 := by
  obtain ⟨a, cap, rfl, h1, h2, h3, h4⟩ := h
  rcases a with _ | ⟨g, o, s⟩
  · rw [h2 rfl] at hu
    simp at hu
  · have hc := h3 _ rfl i u hu
    have hlt := (List.getElem?_eq_some_iff.1 hu).1
    have hs : s = none := by simpa [Addr.add] using World.cell?_spot (h3 _ rfl 0 l[0] (List.getElem?_eq_getElem (by omega)))
    subst hs
    rw [Addr.add_lit] at hc
    exact ⟨g, o, cap, rfl, hc, h4 u (List.mem_of_getElem? hu)⟩

/-- What the closure of On finds behind i rounds. -/
def OnJ (nb pb : Nat) (v : Value) (l : List Int) (i : Nat) (w : World) : Prop :=
  Cel w nb [.int .i64 ((min i l.length : Nat) : Int)] 3 ∧ Cel w pb [v] 35 ∧ Iv w v l

set_option maxRecDepth 100000 in
theorem on1_any {w : World} {nb pb : Nat} {v : Value} {l : List Int} {i m : Nat} (h : OnJ nb pb v l i w) (hm : m < 4294967296) (hn : nb ≠ pb) (hv : l ≠ [] → v.ownBlock ≠ some nb) :
    Calls Try.prog 36 #[.int .i64 (m : Int), ptr nb, ptr pb] w fun e w' => e = .returned (.int .i64 (pickAt l i m : Nat)) ∧ OnJ nb pb v l (i + 1) w' ∧ Only (· = nb) w w' := by
  obtain ⟨hc, hp, hl⟩ := h
  obtain ⟨a, cap, rfl⟩ := hl.shape
  have c1 : w.cell? ⟨nb, 0, none⟩ = some (.int .i64 ((min i l.length : Nat) : Int)) := by rw [hc.cell]; rfl
  have c2 : w.cell? ⟨pb, 0, none⟩ = some (.slice a l.length cap) := by rw [hp.cell]; rfl
  have f1 := hc.frozen 0
  have hlen : l.length ≤ 9223372036854775807 := by
    obtain ⟨_, _, _, h1, _⟩ := hl
    exact h1
  by_cases hi : i < l.length
  · rw [Nat.min_eq_left (by omega)] at c1
    obtain ⟨p, hpp⟩ : ∃ p, l[i]? = some p := ⟨_, List.getElem?_eq_getElem hi⟩
    obtain ⟨g, o, cap', e, hcell, hlo, hhi⟩ := hl.open hpp
    simp only [Value.slice.injEq] at e
    obtain ⟨rfl, -, rfl⟩ := e
    have hq : (((i : Int)) == (l.length : Int)) = false := by rw [beq_eq_false_iff_ne]; omega
    have hil : ((i : Int) < (l.length : Int)) := by omega
    have hgn : g ≠ nb := fun e => hv (fun e => by rw [e] at hi; simp at hi) (by rw [e]; rfl)
    have c3 : (w.setCell ⟨nb, 0, none⟩ (.int .i64 ((i : Int) + 1))).cell? ⟨g, o + i, none⟩ = some (.int .i64 p) := (World.cell?_setCell_other w _ _ _ (fun e => hgn (by have := congrArg Addr.block e; first | exact this | exact this.symm))).trans hcell
    have c4 : (w.setCell ⟨nb, 0, none⟩ (.int .i64 ((i : Int) + 1))).cell? ⟨pb, 0, none⟩ = some (.slice (some ⟨g, o, none⟩) l.length cap) := (World.cell?_setCell_other w _ _ _ (fun e => hn (by have := congrArg Addr.block e; first | exact this | exact this.symm))).trans c2
    have c5 : (w.setCell ⟨nb, 0, none⟩ (.int .i64 ((i : Int) + 1))).cell? ⟨nb, 0, none⟩ = some (.int .i64 ((i : Int) + 1)) := by
      rw [(hc.set 0 _).cell]
      rfl
    have hfin : pickAt l i m = pickN p m := by
      unfold pickAt
      rw [hpp]
      rfl
    have hon : OnJ nb pb (.slice (some ⟨g, o, none⟩) l.length cap) l (i + 1) (w.setCell ⟨nb, 0, none⟩ (.int .i64 ((i : Int) + 1))) := by
      refine ⟨?_, hp.kept (Below.heap_setCell _ _ _ _ (fun e => hn e.symm)), hl.kept fun q hq _ _ => Below.heap_setCell _ _ _ _ (fun e => by
        cases hq
        exact hgn e)⟩
      have := hc.set 0 (.int .i64 ((i : Int) + 1))
      rw [Nat.min_eq_left (by omega)]
      exact this
    have ho : Only (· = nb) w (w.setCell ⟨nb, 0, none⟩ (.int .i64 ((i : Int) + 1))) := (Only.refl (· = nb) w).setCell (p := ⟨nb, 0, none⟩) (.inl rfl) _
    have hpk := pickN_int p m
    rw [hfin]
    have HF := Lib.hid (And.intro hon (And.intro ho hpk))
    clear hon ho hpk hfin hcell hpp hl hc hp hv
    go_enter Try.func36, Try.ntmps36
    go_wp2
    go_ret
    exact ⟨by rw [HF.out.2.2]; rfl, HF.out.1, HF.out.2.1⟩
  · rw [Nat.min_eq_right (by omega)] at c1
    have hfin : pickAt l i m = 0 := by
      unfold pickAt
      rw [List.getElem?_eq_none (by omega)]
      exact pickN_zero m
    have hon : OnJ nb pb (.slice a l.length cap) l (i + 1) w := by
      refine ⟨?_, hp, hl⟩
      rw [Nat.min_eq_right (by omega)] at hc ⊢
      exact hc
    rw [hfin]
    have HF := Lib.hid hon
    clear hon hfin hc hp hl hv hi
    go_enter Try.func36, Try.ntmps36
    go_wp2
    go_ret
    exact ⟨rfl, HF.out, Only.refl _ _⟩

section
variable {w : World} {b : Nat} {D : Dv} {F : Nat → Prop}

theorem settle_on (h : Dev w b D F) (hsmall : ∀ (k : Nat) (x : Bk), D.bk[k]? = some x → x.loose.length < 4294967296) {v : Value} {l : List Int} {nb pb : Nat} (hj : OnJ nb pb v l 0 w) (hn : nb ≠ pb) (hnb : ¬ F nb) (hpb : ¬ F pb)
    (hoff : l ≠ [] → ∀ q, v.ownBlock = some q → ¬ F q) (hvn : l ≠ [] → v.ownBlock ≠ some nb) :
    Calls Try.prog 35 #[ptr b, .func (.func 36) #[] #[ptr nb, ptr pb]] w fun e w' => e = .returned (.tuple #[]) ∧ Dev w' b ⟨comes D.bk l, D.on, D.left⟩ (Grow F w w') ∧ Only (fun q => F q ∨ q = nb) w w' := by
  obtain ⟨sb, mb, sv, lv, Dm, h⟩ := h
  have hlt : ∀ q, v.ownBlock = some q → l ≠ [] → q < w.heap.size := fun q hq hl => by
    obtain ⟨_, _, hI⟩ := hj
    obtain ⟨u, hu⟩ : ∃ u, l[0]? = some u := ⟨_, List.getElem?_eq_getElem (List.length_pos_iff.2 hl)⟩
    obtain ⟨g, o, cap, rfl, hc, _⟩ := hI.open hu
    cases hq
    exact World.block_lt_of_cell? w _ hc
  have hp : ∀ (i m : Nat) (W : World), OnJ nb pb v l i W → 0 < m → m < 4294967296 → i < (loosen D.bk).length → Calls Try.prog 36 (#[.int .i64 (m : Int)] ++ #[ptr nb, ptr pb]) W fun e W' => e = .returned (.int .i64 (pickAt l i m : Nat)) ∧ OnJ nb pb v l (i + 1) W' ∧ Only (· = nb) W W' := fun i m W hJ _ hm _ =>
    on1_any hJ hm hn hvn
  refine (settle_in 12 (Nat.le_refl _) h (gf := 36) (caps := #[ptr nb, ptr pb]) (enters_of Try.func36 (by kernel_rfl) rfl) (pickAt l) (OnJ nb pb v l) (PS := (· = nb)) (fun q e => ⟨by rw [e]; exact hnb, by rw [e]; exact hj.1.lt⟩) hj
    (fun i W W' hW hk => ⟨hW.1.kept (hk _ hj.1.lt (fun e => hnb (e ▸ h.fs))), hW.2.1.kept (hk _ hj.2.1.lt (fun e => hpb (e ▸ h.fs))), hW.2.2.kept fun q hq hl _ => hk q (hlt q hq hl) (fun e => hoff hl q hq (e ▸ h.fs))⟩)
    (fun i m => pickN_le _ _) hp hsmall (picksOf D.bk l) (fun k x hx hl => picksOf_at hx hl)).mono ?_
  rintro e w' ⟨rfl, hd, ho⟩
  rw [settled_picks] at hd
  exact ⟨rfl, hd, ho⟩

theorem on_nil {v : Value} {l : List Int} (w : World) (hv : Iv w v l) : Calls Try.prog 17 #[.pointer none, v] w fun e w' => e = .returned (err 2) ∧ Below w.heap.size w w' := by
  obtain ⟨a, cap, rfl⟩ := hv.shape
  go_enter Try.func17, Try.ntmps17
  go_wp2
  go_ret
  exact ⟨rfl, (Below.refl _ _).alloc (Nat.le_refl _) _⟩

theorem on_on (h : Dev w b D F) (ho : D.on = true) {v : Value} {l : List Int} (hv : Iv w v l) : Calls Try.prog 17 #[ptr b, v] w fun e w' => e = .returned (err 3) ∧ Below w.heap.size w w' := by
  obtain ⟨a, cap, rfl⟩ := hv.shape
  obtain ⟨sb, mb, sv, lv, Dm, h⟩ := h
  have c2 := (h.head.alloc (.cells #[.slice a l.length cap] 35)).cell 2
  have hb := h.fl _ h.fb
  rw [ho] at c2
  clear h ho hv
  go_enter Try.func17, Try.ntmps17
  go_wp2
  go_ret
  exact ⟨rfl, (Below.refl _ _).alloc (Nat.le_refl _) _⟩

set_option maxRecDepth 100000 in
theorem on_ok (h : Dev w b D F) (ho : D.on = false) (hsmall : ∀ (k : Nat) (x : Bk), D.bk[k]? = some x → x.loose.length < 4294967296) {v : Value} {l : List Int} (hv : Iv w v l) (hoff : l ≠ [] → ∀ q, v.ownBlock = some q → ¬ F q) :
    Calls Try.prog 17 #[ptr b, v] w fun e w' => e = .returned (err 0) ∧ Dev w' b ⟨comes D.bk l, true, -1⟩ (Grow F w w') ∧ Only F w w' := by
  obtain ⟨a, cap, rfl⟩ := hv.shape
  have h0 := h
  obtain ⟨sb, mb, sv, lv, Dm, h⟩ := h
  have c2 := (h.head.alloc (.cells #[.slice a l.length cap] 35)).cell 2
  have hb := h.fl _ h.fb
  have hbf := h.fb
  rw [ho] at c2
  have hlt : ∀ q, (Value.slice a l.length cap).ownBlock = some q → l ≠ [] → q < w.heap.size := fun q hq hl => by
    obtain ⟨u, hu⟩ : ∃ u, l[0]? = some u := ⟨_, List.getElem?_eq_getElem (List.length_pos_iff.2 hl)⟩
    obtain ⟨g, o, cap', e, hc, _⟩ := hv.open hu
    simp only [Value.slice.injEq] at e
    obtain ⟨rfl, -, -⟩ := e
    cases hq
    exact World.block_lt_of_cell? w _ hc
  have z1 : (w.alloc (.cells #[.slice a l.length cap] 35)).heap.size = w.heap.size + 1 := by simp
  have hbw : Below w.heap.size w ((w.alloc (.cells #[.slice a l.length cap] 35)).alloc (.cells #[.int .i64 0] 3)) := ((Below.refl _ _).alloc (Nat.le_refl _) _).alloc (by simp) _
  have hj : OnJ (w.heap.size + 1) w.heap.size (.slice a l.length cap) l 0 ((w.alloc (.cells #[.slice a l.length cap] 35)).alloc (.cells #[.int .i64 0] 3)) := by
    refine ⟨?_, (Cel.new w #[.slice a l.length cap] 35).alloc _, hv.kept fun q _ _ hq => hbw.block q hq⟩
    have := Cel.new (w.alloc (.cells #[.slice a l.length cap] 35)) #[.int .i64 0] 3
    rw [z1] at this
    rw [Nat.zero_min]
    exact this
  have hfl := h0.fl
  have hS := settle_on (h0.below hbw) hsmall hj (by omega) (fun hf => by have := hfl _ hf; omega) (fun hf => by have := hfl _ hf; omega) hoff (fun hl e => by have := hlt _ e hl; omega)
  have HO := Lib.hid (And.intro hS (And.intro hbw h0.fl))
  clear ho hsmall hoff hS hj hlt z1 hbw hfl hv h h0
  go_enter Try.func17, Try.ntmps17
  go_wp2_with fail
  refine HO.out.1.mono ?_
  rintro e w2 ⟨rfl, hd, ho2⟩
  have hh2 := (headed_cell2 hd true).dev hd rfl
  have hh3 := (headed_cell3 hh2.1 (-1) (by omega) (by omega)).dev hh2.1 rfl
  have hc := hd
  obtain ⟨sb2, mb2, sv2, lv2, Dm2, hc⟩ := hc
  have k2 := hc.cells.2.2.1
  have g2 := hc.cells.2.2.2.2.2.1
  have hhead := hc.head.set 2 (.bool true)
  have k3 := hhead.cell 3
  have g3 := hhead.frozen 3
  have HF := Lib.hid (And.intro hh2 (And.intro hh3 (And.intro ho2 hc.fl)))
  clear hh2 hh3 hc hd hhead ho2
  go_wp2
  go_ret
  have hz := HO.out.2.1.size
  have hz2 := HF.out.2.2.1.size
  refine ⟨rfl, HF.out.2.1.1.widen (fun q hq => ?_) (fun q hq => ?_), ?_⟩
  · exact hq.imp id fun hq' => ⟨by omega, HF.out.2.1.1.fl q hq⟩
  · have s1 := HF.out.1.2.size
    have s2 := HF.out.2.1.2.size
    rcases hq with hq | hq
    · have := HO.out.2.2 q hq
      omega
    · exact hq.2
  · have hbF : F b := hbf
    exact (((Only.of_below HO.out.2.1 F).then HF.out.2.2.1 (fun q hq => hq.imp id fun e => by omega)).then HF.out.1.2 (fun q e => .inl (e ▸ hbF))).then HF.out.2.1.2 (fun q e => .inl (e ▸ hbF))
end
end Go.Proofs.Ytcpapdpnnlnemaa
