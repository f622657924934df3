/- The helper heavy of the statements of layer 8; condition: the steps lie in memory. -/
import Derived.Test.YtcpapdpnnlnemaaShArgs
import Derived.Test.YtcpapdpnnlnemaaShWorks
import Derived.BigQuiet
namespace Go.Proofs.Ytcpapdpnnlnemaa
open Go.RowKit Go.Maps

/-- How many bytes and picks the steps have. -/
def sumS (ls : List Stp) : Nat := (ls.map fun s => s.b.length + s.picks.length).sum
theorem sumS_le {w : World} {ls : List Stp} (h : ∀ s ∈ ls, s.In w) : sumS ls ≤ ls.length * 281474976710656 := by
  induction ls with
  | nil => exact Nat.le_refl _
  | cons s r ih =>
    have h1 := ih fun s hs => h s (List.mem_cons_of_mem _ hs)
    have h2 := h s List.mem_cons_self
    have := h2.blen
    have := h2.plen
    unfold sumS at *
    rw [List.map_cons, List.sum_cons, List.length_cons, Nat.add_mul]
    omega
theorem sumS_mem {ls : List Stp} {s : Stp} (h : s ∈ ls) : s.b.length + s.picks.length ≤ sumS ls := by
  induction ls with
  | nil => cases h
  | cons x r ih =>
    unfold sumS at *
    rw [List.map_cons, List.sum_cons]
    rcases List.mem_cons.1 h with rfl | h
    · omega
    · have := ih h; omega
theorem sumS_step {ls : List Stp} {r : Nat} {s : Stp} (h : ls[r]? = some s) : sumS (ls.take (r + 1)) = sumS (ls.take r) + s.b.length + s.picks.length := by
  have : ls.take (r + 1) = ls.take r ++ [s] := by rw [List.take_add_one, h]; rfl
  rw [this]
  unfold sumS
  simp
  omega

/-- What heavy answers. -/
def Heavies (w : World) (ls : List Stp) (e : Ending) (w' : World) : Prop := ∃ B, e = .returned (.bool B) ∧ Below w.heap.size w w' ∧ (B = false → ls.length ≤ 40 ∧ ∀ s ∈ ls, s.b.length ≤ 20000 ∧ s.picks.length ≤ 20000)

set_option maxRecDepth 100000 in
set_option maxHeartbeats 2000000 in
theorem heavy_any {v : Value} {ls : List Stp} (w : World) (hv : Sv w v ls) : Calls Try.prog 7 #[v] w (Heavies w ls) := by
  obtain ⟨la, lc, rfl⟩ := hv.shape
  have hlen := hv.len
  have hall : ∀ s ∈ ls, s.In w := fun s hs => by
    obtain ⟨i, hi⟩ := List.getElem?_of_mem hs
    obtain ⟨_, _, _, _, _, _, h⟩ := hv.open hi
    exact h
  obtain ⟨n, hn⟩ : ∃ n, ls.length = n := ⟨_, rfl⟩
  have H := Lib.hid (And.intro hv (And.intro hall hn))
  rw [hn] at hlen ⊢
  clear hv hall hn
  go_enter Try.func7, Try.ntmps7
  go_wp2
  go_loopw [3, 4] (fun m i wr => ∃ r : Nat, r ≤ n ∧ r ≤ 100 ∧ m = .int .i64 (sumS (ls.take r) : Int) ∧ i = .int .i64 (r : Int) ∧ Below w.heap.size w wr) (fun _ i _ => n - (intOf i).toNat)
  case atStart => exact ⟨0, Nat.zero_le _, by omega, rfl, rfl, Below.refl _ _⟩
  case round =>
    obtain ⟨r, hr, hr100, rfl, rfl, hb⟩ := hrel
    have hsum : sumS (ls.take r) ≤ 100 * 281474976710656 := by
      have h1 := sumS_le (w := w) (ls := ls.take r) fun s hs => H.out.2.1 s (List.mem_of_mem_take hs)
      have h2 : (ls.take r).length ≤ 100 := by rw [List.length_take]; omega
      exact Nat.le_trans h1 (Nat.mul_le_mul_right _ h2)
    have hsum' : (sumS (ls.take r) : Int) ≤ 28147497671065600 := by omega
    have hs0 : (0 : Int) ≤ (sumS (ls.take r) : Int) := by omega
    by_cases hlt : r < n
    · have hlt' : (r : Int) < (n : Int) := by omega
      have hr0 : (0 : Int) ≤ (r : Int) := by omega
      by_cases h1 : r < 100
      · have h1' : (r : Int) < 100 := by omega
        obtain ⟨s, hs⟩ : ∃ s, ls[r]? = some s := ⟨_, List.getElem?_eq_getElem (by have := H.out.2.2; omega)⟩
        obtain ⟨g, o, cap, e, hg, hc, hi⟩ := H.out.1.open hs
        simp only [Value.slice.injEq] at e
        obtain ⟨rfl, _, rfl⟩ := e
        have hst := sumS_step hs
        have hbl := hi.blen
        have hpl := hi.plen
        have hbl' : (s.b.length : Int) ≤ 140737488355328 := by omega
        have hpl' : (s.picks.length : Int) ≤ 140737488355328 := by omega
        have c2 := (hb.cell (p := ⟨g, o + r * 7 + 2, none⟩) hg).trans (hc 2 _ rfl)
        have c6 := (hb.cell (p := ⟨g, o + r * 7 + 6, none⟩) hg).trans (hc 6 _ rfl)
        obtain ⟨ba, bc, hbv, _⟩ := hi.body.shape
        obtain ⟨pa, pc, hpv⟩ := hi.picks.shape
        rw [hbv] at c2
        rw [hpv] at c6
        have HS := Lib.hid (And.intro hst hb)
        clear hs hc hi hst hbl hpl hbv hpv hb hsum
        obtain ⟨bl, hbl⟩ : ∃ bl, s.b.length = bl := ⟨_, rfl⟩
        obtain ⟨pl, hpl⟩ : ∃ pl, s.picks.length = pl := ⟨_, rfl⟩
        rw [hbl] at c2 hbl'
        rw [hpl] at c6 hpl'
        have HL := Lib.hid (And.intro hbl hpl)
        clear hbl hpl
        generalize hS : sumS (ls.take r) = S at *
        have HSS := Lib.hid hS
        clear hS
        go_wp2_with fail
        go_quiet (fail)
        go_wp2
        go_roundw
        case rel => exact ⟨r + 1, by omega, by omega, by rw [HS.out.1, HL.out.1, HL.out.2]; go_num, by go_num, below_drewN HS.out.2 _⟩
        case measure => simp [intOf]; omega
      · obtain rfl : r = 100 := by omega
        have hbig : (40 : Int) < (n : Int) := by omega
        have HS := Lib.hid hb
        clear hb hsum
        go_wp2
        go_ret
        exact ⟨true, rfl, HS.out, fun h => by cases h⟩
    · obtain rfl : r = n := by omega
      have hfull : ls.take r = ls := List.take_of_length_le (by have := H.out.2.2; omega)
      rw [hfull] at hsum' hs0 ⊢
      have hmem := fun s (hs : s ∈ ls) => sumS_mem hs
      generalize sumS ls = S at *
      have HS := Lib.hid (And.intro hb hmem)
      clear hb hsum hmem hfull
      by_cases h40 : 40 < r
      · have hbig : (40 : Int) < (r : Int) := by omega
        go_wp2
        go_ret
        exact ⟨true, rfl, HS.out.1, fun h => by cases h⟩
      · have hsm : (r : Int) ≤ 40 := by omega
        go_wp2
        go_ret
        refine ⟨_, rfl, HS.out.1, fun h => ⟨by have := H.out.2.2; omega, fun s hs => ?_⟩⟩
        have h1 := HS.out.2 s hs
        have h2 := of_decide_eq_false (Bool.or_eq_false_iff.1 h).2
        omega

theorem own_cells {w0 w : World} {b : Nat} {D : Dv} {Q : World → Prop} (h : Own w0 w b D Q) (cs : Array Value) (T : TypeId) : Own w0 (w.alloc (.cells cs T)) b D (fun W => Q W ∧ Cel W w.heap.size cs.toList T) :=
  h.with ((Below.refl _ _).alloc (Nat.le_refl _) _) (S := fun q => q = w.heap.size) (fun _ hk => (Cel.new w cs T).kept (hk _ rfl)) fun q e => ⟨by omega, by simp [e]⟩
abbrev stepCs (so sn : Int) (sg sat : Nat) (st : UInt8) (bv pv : Value) : Array Value := #[.int .i64 so, .int .u64 (sg : Int), bv, .int .i64 sn, .int .u16 (sat : Int), .int .u8 (st.toNat : Int), pv]
theorem step_get {W : World} {q : Nat} {so sn : Int} {sg sat : Nat} {st : UInt8} {bv pv : Value} {T : TypeId} (h : Cel W q (stepCs so sn sg sat st bv pv).toList T) : W.cell? ⟨q, 2, none⟩ = some bv ∧ W.cell? ⟨q, 3, none⟩ = some (.int .i64 sn) ∧ W.cell? ⟨q, 6, none⟩ = some pv :=
  ⟨by rw [h.cell]; rfl, by rw [h.cell]; rfl, by rw [h.cell]; rfl⟩
end Go.Proofs.Ytcpapdpnnlnemaa
