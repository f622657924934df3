/- Flush and On of a device: what stands is sure, or what is picked; conditions: a device lies in memory, or the pointer is nil; fewer than 2^32 things are loose in each block; the picks lie elsewhere. -/
import Derived.Test.YtcpapdpnnlnemaaDevSettle
namespace Go.Proofs.Ytcpapdpnnlnemaa
open Go.RowKit Go.Maps

/-- How many things are loose, of each block that has some. -/
def lens : List Bk → List Nat
  | [] => []
  | b :: r => if b.loose = [] then lens r else b.loose.length :: lens r

theorem lens_at : ∀ (l : List Bk) (k : Nat) (x : Bk), l[k]? = some x → x.loose ≠ [] → (lens l)[cnt l k]? = some x.loose.length
  | [], k, x, h, _ => by simp at h
  | b :: r, 0, x, h, hl => by
    simp only [List.getElem?_cons_zero, Option.some.injEq] at h
    subst h
    rw [cnt_zero, lens, if_neg hl]
    rfl
  | b :: r, k + 1, x, h, hl => by
    simp only [List.getElem?_cons_succ] at h
    rw [cnt_cons, lens]
    split
    · exact lens_at r k x h hl
    · rw [List.getElem?_cons_succ]
      exact lens_at r k x h hl

theorem settled_lens (l : List Bk) : settled l (lens l) = flushed l := by
  apply List.ext_getElem?
  intro k
  rcases h : l[k]? with _ | x
  · rw [List.getElem?_eq_none (by rw [settled_length]; exact List.getElem?_eq_none_iff.1 h), List.getElem?_eq_none (by simp [flushed]; exact List.getElem?_eq_none_iff.1 h)]
  · rw [settled_at l _ k x h]
    have : (flushed l)[k]? = some ⟨x.stands, []⟩ := by simp [flushed, h]
    rw [this]
    congr 2
    split
    · rename_i h0
      exact (Bk.stands_nil h0).symm
    · rename_i h0
      rw [lens_at l k x h h0]
      exact x.picked_all

/-- The picks, told one by one. -/
def pickAt (ps : List Int) (i m : Nat) : Nat := pickN ((ps[i]?).getD 0) m

theorem comes_at : ∀ (l : List Bk) (ps : List Int) (k : Nat) (x : Bk), l[k]? = some x → (comes l ps)[k]? = some ⟨if x.loose = [] then x.sure else x.picked (pickAt ps (cnt l k) x.loose.length), []⟩
  | [], _, k, x, h => by simp at h
  | b :: r, ps, 0, x, h => by
    simp only [List.getElem?_cons_zero, Option.some.injEq] at h
    subst h
    unfold comes pickAt
    rw [cnt_zero]
    split
    · simp
    · simp only [List.getElem?_cons_zero]
      cases ps <;> simp
  | b :: r, ps, k + 1, x, h => by
    simp only [List.getElem?_cons_succ] at h
    unfold comes
    rw [cnt_cons]
    split
    · simp only [List.getElem?_cons_succ]
      rw [comes_at r ps k x h]
      simp
    · simp only [List.getElem?_cons_succ]
      rw [comes_at r ps.tail k x h]
      unfold pickAt
      cases ps <;> simp

/-- The picks as a list of numbers, one for each block that has something loose. -/
def picksOf (l : List Bk) (ps : List Int) : List Nat := (List.range l.length).map fun k => pickAt ps k ((lens l)[k]?.getD 0)

theorem cnt_lt {l : List Bk} {k : Nat} {x : Bk} (h : l[k]? = some x) : cnt l k < l.length := by
  have hk := (List.getElem?_eq_some_iff.1 h).1
  unfold cnt
  refine Nat.lt_of_le_of_lt List.countP_le_length ?_
  rw [List.length_take]
  omega

theorem picksOf_at {l : List Bk} {ps : List Int} {k : Nat} {x : Bk} (h : l[k]? = some x) (hl : x.loose ≠ []) : ((picksOf l ps)[cnt l k]?).getD 0 = pickAt ps (cnt l k) x.loose.length := by
  unfold picksOf
  rw [List.getElem?_map, List.getElem?_range (cnt_lt h)]
  simp only [Option.map_some, Option.getD_some]
  rw [lens_at l k x h hl]
  rfl

theorem settled_picks (l : List Bk) (ps : List Int) : settled l (picksOf l ps) = comes l ps := by
  apply List.ext_getElem?
  intro k
  rcases h : l[k]? with _ | x
  · rw [List.getElem?_eq_none (by rw [settled_length]; exact List.getElem?_eq_none_iff.1 h), List.getElem?_eq_none (by rw [comes_length]; exact List.getElem?_eq_none_iff.1 h)]
  · rw [settled_at l _ k x h, comes_at l ps k x h]
    congr 2
    split
    · rfl
    · rename_i h0
      rw [picksOf_at h h0]

section
variable {w : World} {b : Nat} {D : Dv} {F : Nat → Prop}

theorem flush1_any (m : Nat) (w : World) : Calls Try.prog 51 #[.int .i64 (m : Int)] w fun e w' => e = .returned (.int .i64 (m : Int)) ∧ w = w' := by
  go_enter Try.func51, Try.ntmps51
  go_wp2
  go_ret
  exact ⟨rfl, rfl⟩

theorem settle_flush (h : Dev w b D F) (hsmall : ∀ (k : Nat) (x : Bk), D.bk[k]? = some x → x.loose.length < 4294967296) :
    Calls Try.prog 35 #[ptr b, .func (.func 51) #[] #[]] w fun e w' => e = .returned (.tuple #[]) ∧ Dev w' b ⟨flushed D.bk, D.on, D.left⟩ (Grow F w w') ∧ Only F w w' := by
  obtain ⟨sb, mb, sv, lv, Dm, h⟩ := h
  have hp : ∀ (i m : Nat) (W : World), True → 0 < m → m < 4294967296 → i < (loosen D.bk).length → Calls Try.prog 51 (#[.int .i64 (m : Int)] ++ #[]) W fun e W' => e = .returned (.int .i64 (m : Nat)) ∧ True ∧ Only (fun _ => False) W W' := fun i m W _ _ _ _ => by
    rw [Array.append_empty]
    refine (flush1_any m W).mono ?_
    rintro e w' ⟨rfl, rfl⟩
    exact ⟨rfl, trivial, Only.refl _ _⟩
  refine (settle_in 12 (Nat.le_refl _) h (gf := 51) (caps := #[]) (enters_of Try.func51 (by kernel_rfl) rfl) (fun _ m => m) (fun _ _ => True) (PS := fun _ => False) (fun _ hh => hh.elim) trivial (fun _ _ _ _ _ => trivial) (fun _ _ => Nat.le_refl _)
    hp hsmall (lens D.bk) (fun k x hx hl => by rw [lens_at D.bk k x hx hl]; rfl)).mono ?_
  rintro e w' ⟨rfl, hd, ho⟩
  rw [settled_lens] at hd
  exact ⟨rfl, hd, ho.mono fun q _ hq => hq.elim id False.elim⟩

theorem flush_nil (w : World) : Calls Try.prog 30 #[.pointer none] w fun e w' => e = .returned (err 2) ∧ w = w' := by
  go_enter Try.func30, Try.ntmps30
  go_wp2_with fail
  refine (ready_nil _).mono ?_
  rintro e w1 ⟨rfl, rfl⟩
  go_wp2
  go_ret
  exact ⟨rfl, rfl⟩

theorem flush_off (h : Dev w b D F) (ho : D.on = false) : Calls Try.prog 30 #[ptr b] w fun e w' => e = .returned (err 8) ∧ w = w' := by
  go_enter Try.func30, Try.ntmps30
  go_wp2_with fail
  refine (ready_off h ho).mono ?_
  rintro e w1 ⟨rfl, rfl⟩
  go_wp2
  go_ret
  exact ⟨rfl, rfl⟩

theorem flush_dies (h : Dev w b D F) (ho : D.on = true) (hz : D.left = 0) : Calls Try.prog 30 #[ptr b] w fun e w' => e = .returned (err 8) ∧ Dev w' b ⟨D.bk, false, D.left⟩ F ∧ Only (· = b) w w' := by
  have HO := Lib.hid (And.intro ho hz)
  clear ho hz
  go_enter Try.func30, Try.ntmps30
  go_wp2_with fail
  refine (ready_on h HO.out.1).mono ?_
  rintro e w1 ⟨rfl, rfl⟩
  go_wp2_with fail
  refine (spend_dies h HO.out.2).mono ?_
  rintro e w1 ⟨rfl, hh⟩
  go_wp2
  go_ret
  exact ⟨rfl, hh.dev h rfl⟩

/-- Two steps of one device's own. -/
theorem two_steps {w1 w2 : World} {D' : Dv} (h : Dev w b D F) (h1 : Only (· = b) w w1) (h2 : Dev w2 b D' (Grow F w1 w2)) (h3 : Only F w1 w2) : Dev w2 b D' (Grow F w w2) ∧ Only F w w2 := by
  have hb : F b := by obtain ⟨sb, mb, sv, lv, Dm, h⟩ := h; exact h.fb
  have hz1 := h1.size
  have hz2 := h3.size
  refine ⟨h2.widen (fun q hq => hq.imp id fun hq => ⟨by omega, hq.2⟩) (fun q hq => ?_), (h1.mono (fun q _ e => e ▸ hb)).trans h3⟩
  rcases hq with hq | hq
  · have := h.fl q hq
    omega
  · exact hq.2

theorem flush_ok (h : Dev w b D F) (ho : D.on = true) (hz : D.left ≠ 0) (hsmall : ∀ (k : Nat) (x : Bk), D.bk[k]? = some x → x.loose.length < 4294967296) :
    Calls Try.prog 30 #[ptr b] w fun e w' => e = .returned (err 0) ∧ Dev w' b ⟨flushed D.bk, D.on, spent D.left⟩ (Grow F w w') ∧ Only F w w' := by
  have HO := Lib.hid (And.intro ho (And.intro hz hsmall))
  clear ho hz hsmall
  go_enter Try.func30, Try.ntmps30
  go_wp2_with fail
  refine (ready_on h HO.out.1).mono ?_
  rintro e w1 ⟨rfl, rfl⟩
  go_wp2_with fail
  refine (spend_goes h HO.out.2.1).mono ?_
  rintro e w1 ⟨rfl, hh⟩
  obtain ⟨h1, o1⟩ := hh.dev h rfl
  clear hh
  go_wp2_with fail
  refine (settle_flush h1 HO.out.2.2).mono ?_
  rintro e w2 ⟨rfl, h2, o2⟩
  go_wp2
  go_ret
  exact ⟨rfl, two_steps h o1 h2 o2⟩
end
end Go.Proofs.Ytcpapdpnnlnemaa
