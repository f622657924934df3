/- Read of the document's device; condition: it lies in memory. -/
import Derived.Test.YtcgecjedgbmmkaaRefStands
namespace Go.Proofs.Ytcgecjedgbmmkaa
open Go.RowKit Go.Maps

theorem cell_of {w : World} {g : Nat} {C : Array Value} {t : TypeId} {fr : Nat × Nat} (hh : w.heap[g]? = some (.cells C t fr)) (i : Nat) : w.cell? ⟨g, i, none⟩ = C[i]? := by simp [World.cell?, hh]

theorem bs_of_string (w : World) (l : Bytes) (C : Nat) (t : TypeId) (fr : Nat × Nat) (h1 : l.length ≤ C) (h2 : C ≤ maxLen) : Bs (w.alloc (.cells (bytesRow ⟨l.toArray⟩ C) t fr)) (.slice (some ⟨w.heap.size, 0, none⟩) l.length C) l := by
  refine ⟨some ⟨w.heap.size, 0, none⟩, C, rfl, h1, h2, (fun h => by cases h), fun ad had i u hu => ?_⟩
  cases had
  rw [Addr.add_lit, Nat.zero_add]
  have hi : i < l.length := by
    have := (List.getElem?_eq_some_iff.1 hu).1
    simpa [bvs] using this
  have hb := bytesRow_at ⟨l.toArray⟩ C i (by simpa using hi)
  have : (w.alloc (.cells (bytesRow ⟨l.toArray⟩ C) t fr)).cell? ⟨w.heap.size, i, none⟩ = (bytesRow ⟨l.toArray⟩ C)[i]? := by
    have hh : (w.alloc (.cells (bytesRow ⟨l.toArray⟩ C) t fr)).heap[w.heap.size]? = some (.cells (bytesRow ⟨l.toArray⟩ C) t fr) := by
      show (w.heap.push _)[w.heap.size]? = _
      simp
    exact cell_of hh i
  rw [this, hb]
  rw [bvs_cell hi] at hu
  rw [← hu]
  simp [bv]

/-- These bytes are answered, with no error. -/
def Tells (w : World) (l : Bytes) (e : Ending) (w' : World) : Prop := ∃ g n c, e = .returned (.tuple #[.slice (some ⟨g, 0, none⟩) n c, err 0]) ∧ Bs w' (.slice (some ⟨g, 0, none⟩) n c) l ∧ w.heap.size ≤ g ∧ Below w.heap.size w w'

section
variable {w : World} {r : Nat} {D : Dv} {F : Nat → Prop}

theorem rread_off (h : Ref w r D F) (ho : D.on = false) (k : Int) : Calls Try.prog 25 #[ptr r, .int .i64 k] w fun e w' => e = .returned (.tuple #[nilSl, err 8]) ∧ w = w' := by
  obtain ⟨g, cap, cur, lv, h⟩ := h
  obtain ⟨_, c1, c2, _, f1, f2⟩ := h.top
  rw [ho] at c2
  clear h ho
  go_enter Try.func25, Try.ntmps25
  go_wp2
  go_ret2
  exact ⟨rfl, rfl⟩

theorem rread_no (h : Ref w r D F) (ho : D.on = true) (k : Int) (hk : k < 0 ∨ (D.bk.length : Int) ≤ k) : Calls Try.prog 25 #[ptr r, .int .i64 k] w fun e w' => e = .returned (.tuple #[nilSl, err 1]) ∧ w = w' := by
  have h0 := h
  obtain ⟨g, cap, cur, lv, h⟩ := h
  obtain ⟨_, c1, c2, _, f1, f2⟩ := h.top
  rw [ho] at c2
  clear h ho
  go_enter Try.func25, Try.ntmps25
  go_wp2_with fail
  refine (rhas_no h0 k hk).mono ?_
  rintro e w1 ⟨rfl, rfl⟩
  go_wp2
  go_ret2
  exact ⟨rfl, rfl⟩

set_option maxRecDepth 100000 in
theorem rread_ok (h : Ref w r D F) (ho : D.on = true) {k : Nat} {x : Bk} (hx : D.bk[k]? = some x) (hl : x.stands.length ≤ maxLen) : Calls Try.prog 25 #[ptr r, .int .i64 (k : Int)] w (Tells w x.stands) := by
  have h0 := h
  have hk := (List.getElem?_eq_some_iff.1 hx).1
  obtain ⟨g, cap, cur, lv, h⟩ := h
  obtain ⟨c0, c1, c2, _, f1, f2⟩ := h.top
  rw [ho] at c2
  obtain ⟨a0, a1, _⟩ := h.at hx
  have hr := h.loose k x hx
  have hroom := h.room
  have hfew := h.few
  have HC := fun W : World => run_bytes_of_string (P := Try.prog) W 9 41 5 ⟨x.stands.toArray⟩ Try.underlying9 Try.underlying41 Try.underlying5
  have hsz : (⟨x.stands.toArray⟩ : ByteArray).size = x.stands.length := rfl
  have HL := Lib.hid (And.intro hl hsz)
  have HCS := Lib.hid HC
  clear h ho hx hl hsz HC
  generalize lv k = V at *
  generalize hS0 : str x.sure = S0 at *
  go_enter Try.func25, Try.ntmps25
  go_wp2_with fail
  refine (rhas_yes h0 k hk).mono ?_
  rintro e w1 ⟨rfl, rfl⟩
  go_wp2_with fail
  rw [← hS0]
  refine (rstands_any hr).mono ?_
  rintro e w2 ⟨rfl, hb⟩
  have hc := HCS.out w2
  have e0 : Bk.stands ⟨x.sure, x.loose⟩ = x.stands := rfl
  rw [e0]
  generalize hS : x.stands = S at *
  go_wp2
  go_ret2
  have hb3 := hb.alloc hb.size (.cells (bytesRow ⟨S.toArray⟩ (grownCap w2 S.length 0 5)) 5 ((bytesRow ⟨S.toArray⟩ (grownCap w2 S.length 0 5)).size, (bytesRow ⟨S.toArray⟩ (grownCap w2 S.length 0 5)).size + 1))
  exact ⟨_, _, _, rfl, (bs_of_string w2 S _ _ _ (grownCap_ge w2 S.length 0 _) (grownCap_le_maxLen w2 S.length 0 _ HL.out.1)).kept fun _ _ hu => hu, hb.size, ⟨hb3.os, hb3.tape, hb3.output, hb3.size, hb3.block⟩⟩
end
end Go.Proofs.Ytcgecjedgbmmkaa
