/- How the arguments of a statement read: a slice of bytes that came in is a list of bytes, an unsigned number is a natural number below its bound; no condition. -/
import Derived.Test.YtnfmbggffmloeaaOctWorks
import Derived.ProofKit
import Derived.OpenShut
namespace Go.Proofs.Ytnfmbggffmloeaa
open Go.RowKit

/-- A slice of integers that came in: nil, or a row of cells. -/
def IsRow (k : IntKind) (w : World) (a : Option Addr) (len cap : Nat) (zs : List Int) : Prop :=
  (a = none ∧ len = 0 ∧ cap = 0 ∧ zs = []) ∨
  ∃ x, a = some x ∧ len ≤ cap ∧ cap ≤ maxLen ∧ zs.length = cap ∧ (∀ i, i < zs.length → w.cell? (x.add i) = some (.int k (zs.getD i 0))) ∧ ∀ n ∈ zs, (Lit.int k n).wf = true

theorem isRow_bs {w : World} {a : Option Addr} {len cap : Nat} {zs : List Int} (h : IsRow .u8 w a len cap zs) : ∃ l, Bs w (.slice a len cap) l := by
  rcases h with ⟨rfl, rfl, rfl, rfl⟩ | ⟨x, rfl, hl, hm, hz, hc, hw⟩
  · exact ⟨[], Bs.nil w⟩
  · refine ⟨(zs.take len).map fun n => UInt8.ofNat n.toNat, some x, cap, ?_, ?_, hm, (fun h => by cases h), fun ad had i u hu => ?_⟩
    · simp; omega
    · simp; omega
    · cases had
      have hi := (List.getElem?_eq_some_iff.1 hu).1
      simp [bvs] at hi
      rw [hc i (by omega), ← hu]
      have hw' := hw (zs[i]'(by omega)) (List.getElem_mem _)
      have hb : 0 ≤ zs[i]'(by omega) ∧ zs[i]'(by omega) ≤ 255 := bounds_u8 hw'
      have hlt : i < zs.length := by omega
      simp only [bvs, List.map_map, List.getElem?_map, List.getElem?_take, List.getD_eq_getElem?_getD, List.getElem?_eq_getElem hlt, Option.getD_some]
      rw [if_pos (by omega)]
      simp only [Option.map_some, Function.comp, bv]
      congr 2
      rw [UInt8.toNat_ofNat']
      omega

theorem wf_u64 {n : Int} (h : (Lit.int .u64 n).wf = true) : ∃ m : Nat, n = (m : Int) ∧ m < 18446744073709551616 := by
  obtain ⟨h1, h2⟩ := bounds_u64 h
  obtain ⟨m, rfl⟩ := Int.eq_ofNat_of_zero_le h1
  exact ⟨m, rfl, by omega⟩
end Go.Proofs.Ytnfmbggffmloeaa
