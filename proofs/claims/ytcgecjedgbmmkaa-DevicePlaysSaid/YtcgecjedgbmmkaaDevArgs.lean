/- How the arguments of the statements of layer 3 read: a slice of pairs of bytes, a slice of numbers; no condition. -/
import Derived.Test.YtcgecjedgbmmkaaDevOn
import Derived.Deep.Slices
import Derived.OpenShut
namespace Go.Proofs.Ytcgecjedgbmmkaa
open Go.RowKit Go.ChangeShapes Go.WideShapes

/-- A slice of pairs of bytes that reads as these pairs. -/
def Pv (w : World) (v : Value) (ws : List (UInt8 × UInt8)) : Prop :=
  ∃ a cap, v = .slice a ws.length cap ∧ ws.length ≤ 9223372036854775807 ∧ (a = none → ws = []) ∧ ∀ ad, a = some ad → ∀ (i : Nat) (p : UInt8 × UInt8), ws[i]? = some p → w.cell? (ad.add (i * 2)) = some (bv p.1) ∧ w.cell? (ad.add (i * 2 + 1)) = some (bv p.2)

theorem Pv.shape {w : World} {v : Value} {ws : List (UInt8 × UInt8)} (h : Pv w v ws) : ∃ a cap, v = .slice a ws.length cap := let ⟨a, cap, e, _⟩ := h; ⟨a, cap, e⟩
theorem Pv.open {w : World} {v : Value} {ws : List (UInt8 × UInt8)} (h : Pv w v ws) {i : Nat} {p : UInt8 × UInt8} (hp : ws[i]? = some p) : ∃ g o cap, v = .slice (some ⟨g, o, none⟩) ws.length cap ∧ g < w.heap.size ∧
    w.cell? ⟨g, o + i * 2, none⟩ = some (.int .u8 (p.1.toNat : Int)) ∧ w.cell? ⟨g, o + (i * 2 + 1), none⟩ = some (.int .u8 (p.2.toNat : Int)) := by
  obtain ⟨a, cap, rfl, h1, h2, h3⟩ := h
  rcases a with _ | ⟨g, o, s⟩
  · rw [h2 rfl] at hp
    simp at hp
  · obtain ⟨c1, c2⟩ := h3 _ rfl i p hp
    have hlt := (List.getElem?_eq_some_iff.1 hp).1
    have hs : s = none := by simpa [Addr.add] using World.cell?_spot (h3 _ rfl 0 ws[0] (List.getElem?_eq_getElem (by omega))).1
    subst hs
    rw [Addr.add_lit] at c1 c2
    exact ⟨g, o, cap, rfl, World.block_lt_of_cell? w _ c1, c1, c2⟩

section
variable {H : Type} {enc : TypeId × Value → H}

theorem byte_of_trod {W : World} {b : Nat} {sp : Nat → Bool} {hd : Bool} {n : Nat} {cs : List Value} {x : DataW H × List MemPlace} (h : DataW.trod enc Try.prog W b sp hd n 5 cs = some x) : ∃ c : UInt8, cs = [bv c] := by
  obtain ⟨m, rfl, _, hw⟩ := DataW.trod_int Try.underlying5 h
  obtain ⟨k, rfl, hk⟩ := wf_u8 hw
  exact ⟨UInt8.ofNat k, by simp [bv]; omega⟩

theorem pv_of_trod {W : World} {n : Nat} {v : Value} {x : DataW H × List MemPlace} (h : DataW.trod enc Try.prog W 0 (fun _ => true) true n 42 [v] = some x) : ∃ ws, Pv W v ws := by
  rcases Deep.open_slice Try.underlying42 h with ⟨hcs, _⟩ | ⟨a, len, cap, m, k, D, Pl, hcs, _, hl, hm, hmm, _, hx⟩
  · simp at hcs
    subst hcs
    exact ⟨[], none, 0, rfl, by simp, fun _ => rfl, fun _ h => by cases h⟩
  · simp at hcs
    subst hcs
    simp only [if_true] at hmm
    subst hmm
    have c2 : Try.prog.cellsOf 46 = 2 := by kernel_rfl
    have c1 : Try.prog.cellsOf 5 = 1 := by kernel_rfl
    rw [c2] at hx
    obtain ⟨f, hf⟩ := Deep.choose_lt (α := UInt8 × UInt8) (n := len) (p := fun i p => W.cell? (a.add (i * 2)) = some (bv p.1) ∧ W.cell? (a.add (i * 2 + 1)) = some (bv p.2)) fun i hi => by
      obtain ⟨cs', h1, h2⟩ := hx i (by omega)
      obtain ⟨_, hlen, hcell⟩ := World.cells?_some h1
      obtain ⟨xs, k', _, _, _, hxl, hxs⟩ := DataW.trod_array Try.underlying46 h2
      rw [c1] at hxs
      match cs', hlen with
      | [u0, u1], _ =>
        have g0 := hxs 0 (by omega)
        have g1 := hxs 1 (by omega)
        rw [List.getElem?_eq_getElem (by omega)] at g0 g1
        obtain ⟨b0, e0⟩ := byte_of_trod g0
        obtain ⟨b1, e1⟩ := byte_of_trod g1
        simp at e0 e1
        have k0 := hcell 0 (by omega)
        have k1 := hcell 1 (by omega)
        rw [Addr.add_add] at k0 k1
        refine ⟨(b0, b1), ?_, ?_⟩
        · simpa [e0] using k0
        · simpa [e1] using k1
    have hmax : len ≤ 9223372036854775807 := by unfold maxLen at hm; omega
    refine ⟨(List.range len).map f, some a, m, by simp, by simpa using hmax, (fun h => by cases h), fun ad had i p hi => ?_⟩
    cases had
    have hlt : i < len := by
      have := (List.getElem?_eq_some_iff.1 hi).1
      simpa using this
    have e : p = f i := by simpa [hlt] using hi.symm
    rw [e]
    exact hf i hlt
end

theorem isRow_iv {w : World} {a : Option Addr} {len cap : Nat} {zs : List Int} (h : IsRow .i64 w a len cap zs) : ∃ l, Iv w (.slice a len cap) l := by
  rcases h with ⟨rfl, rfl, rfl, rfl⟩ | ⟨x, rfl, hl, hm, hz, hc, hw⟩
  · exact ⟨[], Iv.nil w⟩
  · have hlen : (zs.take len).length = len := by rw [List.length_take]; omega
    refine ⟨zs.take len, some x, cap, by rw [hlen], by rw [hlen]; unfold maxLen at hm; omega, (fun h => by cases h), fun ad had i u hu => ?_, fun u hu => ?_⟩
    · cases had
      have hi := (List.getElem?_eq_some_iff.1 hu).1
      rw [hlen] at hi
      rw [List.getElem?_take_of_lt hi] at hu
      rw [hc i (by omega), List.getD_eq_getElem?_getD, hu]
      rfl
    · exact bounds_i64 (hw u (List.mem_of_mem_take hu))
end Go.Proofs.Ytcgecjedgbmmkaa
