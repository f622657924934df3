/- How slices of numbers and single bytes that come in read; no condition. -/
import Derived.Test.YtcpapdpnnlnemaaDevOn
import Derived.Deep.Slices
import Derived.OpenShut
namespace Go.Proofs.Ytcpapdpnnlnemaa
open Go.RowKit Go.ChangeShapes Go.WideShapes

theorem isRow_iv {w : World} {a : Option Addr} {len cap : Nat} {zs : List Int} (h : IsRow .i64 w a len cap zs) : ∃ l, Iv w (.slice a len cap) l := by
  rcases h with ⟨rfl, rfl, rfl, rfl⟩ | ⟨x, rfl, hl, hm, hz, hc, hw⟩
  · exact ⟨[], Iv.nil w⟩
  · have hlen : (zs.take len).length = len := by rw [List.length_take]; omega
    refine ⟨zs.take len, some x, cap, by rw [hlen], by rw [hlen]; unfold maxLen at hm; omega, (fun h => by cases h), fun ad had i u hu => ?_, fun u hu => ?_⟩
    · cases had
      have hi := (List.getElem?_eq_some_iff.1 hu).1
      rw [hlen] at hi
      rw [List.getElem?_take_of_lt hi] at hu
      rw [hc i (by omega), List.getD_eq_getElem?_getD, hu]
      rfl
    · exact bounds_i64 (hw u (List.mem_of_mem_take hu))

section
variable {H : Type} {enc : TypeId × Value → H}

theorem byte_of_trod {W : World} {b : Nat} {sp : Nat → Bool} {hd : Bool} {n : Nat} {cs : List Value} {x : DataW H × List MemPlace} (h : DataW.trod enc Try.prog W b sp hd n 5 cs = some x) : ∃ c : UInt8, cs = [bv c] := by
  obtain ⟨m, rfl, _, hw⟩ := DataW.trod_int Try.underlying5 h
  obtain ⟨k, rfl, hk⟩ := wf_u8 hw
  exact ⟨UInt8.ofNat k, by simp [bv]; omega⟩

theorem iv_of_trod {W : World} {n : Nat} {cs : List Value} {x : DataW H × List MemPlace} (h : DataW.trod enc Try.prog W 0 (fun _ => true) true n 35 cs = some x) : ∃ v l, cs = [v] ∧ Iv W v l := by
  rcases open_ints Try.underlying35 Try.underlying3 (by kernel_rfl) h with ⟨hcs, _⟩ | ⟨a, l, c, zs, hcs, _, hl, hm, hz, _, hcell, hwz⟩
  · exact ⟨_, _, hcs, Iv.nil W⟩
  · have hr : IsRow .i64 W (some a) l c zs := .inr ⟨_, rfl, hl, hm, by simpa using hz, hcell, hwz⟩
    obtain ⟨ls, hi⟩ := isRow_iv hr
    exact ⟨_, ls, hcs, hi⟩

end
end Go.Proofs.Ytcpapdpnnlnemaa
