/- Read of a device: what stands in a block, in new memory, or why not; condition: a device lies in memory, or the pointer is nil. -/
import Derived.Test.YtcpapdpnnlnemaaDevCalls
namespace Go.Proofs.Ytcpapdpnnlnemaa
open Go.RowKit Go.Maps

/-- A block of these bytes is answered, in new memory, with no error. -/
def Reads (w : World) (l : Bytes) (e : Ending) (w' : World) : Prop :=
  ∃ g, e = .returned (.tuple #[.slice (some ⟨g, 0, none⟩) 512 512, err 0]) ∧ Cel w' g (bvs l) 5 ∧ w.heap.size ≤ g ∧ Below w.heap.size w w'

section
variable {w : World} {b : Nat} {D : Dv} {F : Nat → Prop}

theorem read_nil (k : Int) (w : World) : Calls Try.prog 24 #[.pointer none, .int .i64 k] w fun e w' => e = .returned (.tuple #[nilSl, err 2]) ∧ w = w' := by
  go_enter Try.func24, Try.ntmps24
  go_wp2_with fail
  refine (ready_nil _).mono ?_
  rintro e w1 ⟨rfl, rfl⟩
  go_wp2
  go_ret2
  exact ⟨rfl, rfl⟩

theorem read_off (h : Dev w b D F) (ho : D.on = false) (k : Int) : Calls Try.prog 24 #[ptr b, .int .i64 k] w fun e w' => e = .returned (.tuple #[nilSl, err 8]) ∧ w = w' := by
  go_enter Try.func24, Try.ntmps24
  go_wp2_with fail
  refine (ready_off h ho).mono ?_
  rintro e w1 ⟨rfl, rfl⟩
  go_wp2
  go_ret2
  exact ⟨rfl, rfl⟩

theorem read_no (h : Dev w b D F) (ho : D.on = true) (k : Int) (hk : k < 0 ∨ (D.bk.length : Int) ≤ k) : Calls Try.prog 24 #[ptr b, .int .i64 k] w fun e w' => e = .returned (.tuple #[nilSl, err 1]) ∧ w = w' := by
  have HO := Lib.hid ho
  clear ho
  go_enter Try.func24, Try.ntmps24
  go_wp2_with fail
  refine (ready_on h HO.out).mono ?_
  rintro e w1 ⟨rfl, rfl⟩
  go_wp2_with fail
  refine (has_no h k hk).mono ?_
  rintro e w1 ⟨rfl, rfl⟩
  go_wp2
  go_ret2
  exact ⟨rfl, rfl⟩

set_option maxRecDepth 100000 in
theorem read_ok (h : Dev w b D F) (ho : D.on = true) {k : Nat} {x : Bk} (hx : D.bk[k]? = some x) : Calls Try.prog 24 #[ptr b, .int .i64 (k : Int)] w (Reads w x.stands) := by
  have h0 := h
  have hk := (List.getElem?_eq_some_iff.1 hx).1
  obtain ⟨sb, mb, sv, lv, Dm, h⟩ := h
  have hrun := h.look hx
  obtain ⟨c0, c1, _⟩ := h.cells
  have hr := h.loose k x hx
  have hfew := h.few
  cases hl : x.loose with
  | nil =>
    have hnil := h.lv_nil hx hl
    rw [hnil] at hrun
    obtain ⟨u, hu, hs⟩ := h.sure k x hx
    have hcs : w.cell? ⟨sb, k, none⟩ = some u := by rw [h.rows.cell, hu]
    have hst := Bk.stands_nil hl
    have hbs : ∃ a n c l, u = .slice a n c ∧ Bs w (.slice a n c) l ∧ l.length ≤ 512 ∧ padded l = x.stands := by
      rcases hs with ⟨rfl, e⟩ | hb
      · exact ⟨none, 0, 0, [], rfl, Bs.nil w, by simp, by rw [padded_nil, hst, e]⟩
      · obtain ⟨g, rfl, hb, hlen⟩ := hb.open
        exact ⟨_, _, _, _, rfl, hb, by omega, by rw [padded_full hlen, hst]⟩
    obtain ⟨a, n, c, l, rfl, hb, hll, hp⟩ := hbs
    have H := Lib.hid (And.intro ho hp)
    have hki : (k : Int) < (D.bk.length : Int) := by omega
    clear ho hp hst hl hs hu hnil h hx hr
    go_enter Try.func24, Try.ntmps24
    go_wp2_with fail
    refine (ready_on h0 H.out.1).mono ?_
    rintro e w1 ⟨rfl, rfl⟩
    go_wp2_with fail
    refine (has_yes h0 k hk).mono ?_
    rintro e w1 ⟨rfl, rfl⟩
    go_wp2_with fail
    refine (newBlock_any _ hb hll).mono ?_
    rintro e w2 ⟨g, rfl, hg⟩
    go_wp2
    go_ret2
    exact ⟨g, rfl, by rw [← H.out.2]; exact hg⟩
  | cons y r =>
    have hpos : x.loose.length = r.length + 1 := by rw [hl]; rfl
    have hst := Bk.stands_some hpos
    have hmax := hr.len
    rw [hpos] at hmax
    obtain ⟨g, cap, hv, hcells⟩ := hr.some (by omega)
    obtain ⟨u, hu, hb⟩ := hcells _ _ hst
    obtain ⟨g2, rfl, hb, hlen⟩ := hb.open
    rw [hv, hpos] at hrun
    have H := Lib.hid (And.intro ho (padded_full hlen))
    have hll : x.stands.length ≤ 512 := by omega
    clear ho hst hl hv hcells hpos h hx hr hlen
    generalize x.stands = l at *
    generalize r.length = m at *
    go_enter Try.func24, Try.ntmps24
    go_wp2_with fail
    refine (ready_on h0 H.out.1).mono ?_
    rintro e w1 ⟨rfl, rfl⟩
    go_wp2_with fail
    refine (has_yes h0 k hk).mono ?_
    rintro e w1 ⟨rfl, rfl⟩
    go_wp2_with fail
    refine (newBlock_any _ hb hll).mono ?_
    rintro e w2 ⟨g, rfl, hg⟩
    go_wp2
    go_ret2
    exact ⟨g, rfl, by rw [← H.out.2]; exact hg⟩
end
end Go.Proofs.Ytcpapdpnnlnemaa
