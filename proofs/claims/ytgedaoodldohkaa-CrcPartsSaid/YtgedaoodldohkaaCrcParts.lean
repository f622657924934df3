/- The walk of CrcParts: it returns true and writes nothing that was there; no condition. -/
import Derived.Test.YtgedaoodldohkaaCrcSums
import Derived.Test.YtgedaoodldohkaaBss
namespace Go.Proofs.Ytgedaoodldohkaa
open Go.RowKit

/-- The first r byte strings, one behind the other. -/
def joinN (ls : List (List UInt8)) (r : Nat) : List UInt8 := (ls.take r).flatten
theorem joinN_succ {ls : List (List UInt8)} {r : Nat} {s : List UInt8} (h : ls[r]? = some s) : joinN ls (r + 1) = joinN ls r ++ s := by
  unfold joinN
  rw [List.take_add_one, h]
  simp

set_option maxRecDepth 100000 in
set_option maxHeartbeats 1000000 in
theorem crcParts_any {v : Value} {ls : List (List UInt8)} (w : World) (hl : BssB w v ls) :
    Calls Try.prog 4 #[v] w (Yes w) := by
  obtain ⟨hl, hsz⟩ := hl
  obtain ⟨a, cap, rfl, hl⟩ := hl.shape
  have Hsz := Lib.hid hsz
  clear hsz
  by_cases nv : 60 < ls.length
  · go_enter Try.func4, Try.ntmps4
    go_wp2_with fail
    refine (works_any _).mono ?_
    rintro e w3 ⟨rfl, b3⟩
    go_wp2
    go_ret
    exact ⟨rfl, b3⟩
  have hsn := Lib.hid sumN_nil
  go_enter Try.func4, Try.ntmps4
  go_wp2_with fail
  refine (sum_any _ (Bs.nil w)).mono ?_
  rintro e w1 ⟨rfl, rfl⟩
  go_wp2_with fail
  go_loopw [3, 4, 5] (fun av sv i wr => ∃ r : Nat, ∃ ab cb, r ≤ ls.length ∧ i = .int .i64 r ∧ av = .slice ab (joinN ls r).length cb ∧ sv = .int .u32 (sumN (joinN ls r) : Nat) ∧ Ow wr w.heap.size 5 av (joinN ls r) ∧ (joinN ls r).length ≤ 8192 ∧ Below w.heap.size w wr) (fun _ _ i _ => ls.length - (intOf i).toNat)
  case atStart => exact ⟨0, none, 0, Nat.zero_le _, rfl, rfl, rfl, World.ownsRow_nil _ _ _ _, Nat.zero_le _, Below.refl _ _⟩
  case round =>
    obtain ⟨r, ab, cb, hr, rfl, rfl, rfl, ho, hn, hbr⟩ := hrel
    by_cases hlt : r < ls.length
    · obtain ⟨s, hs⟩ : ∃ s, ls[r]? = some s := ⟨_, List.getElem?_eq_getElem hlt⟩
      obtain ⟨b0, o0, cap0, e0, q0, hb0, hcells⟩ := hl.open (by omega)
      simp only [Value.slice.injEq] at e0
      obtain ⟨rfl, _, rfl⟩ := e0
      obtain ⟨as1, cs1, hcell, hbs⟩ := hcells r s hs
      have hcx := (hbr.cell (p := ⟨b0, o0 + r, none⟩) (by exact hb0)).trans hcell
      have hbs1 := hbs.below hbr
      have hj := joinN_succ hs
      have H := Lib.hid hj
      have hlen := Hsz.out s (List.mem_of_getElem? hs)
      clear hs hcells hcell hj
      by_cases hfit : (joinN ls r).length + s.length ≤ 8192
      · have hs2 : (joinN ls r).length + s.length ≤ 140737488355328 := by omega
        have hz := hbr.size
        go_wp2_with fail
        refine (more_any _ _ hbs1 (sumN_lt _)).mono ?_
        rintro e w2 ⟨rfl, rfl⟩
        go_wp2_with (at_builtin; refine wpList_append_bs bt rfl _ _ rfl w.heap.size rfl rfl ho hbs1 hs2 hz ?_; intro v2 w2 ho2 hg2)
        refine (sum_any _ ho2.bs).mono ?_
        rintro e w3 ⟨rfl, rfl⟩
        obtain ⟨a2, c2, hv2, hb2⟩ := ho2.bs.shape
        subst hv2
        rw [List.length_append] at hb2
        rw [← sumN_append]
        go_wp2
        go_roundw
        case rel => exact ⟨r + 1, a2, c2, by omega, by go_num, by rw [H.out, List.length_append], by rw [H.out], by rw [H.out, ← List.length_append]; exact ho2, by rw [H.out, List.length_append]; exact hfit, hbr.grown hg2 hz (fun j hj => (World.ownsRow.lt ho j hj).1)⟩
        case measure => simp [intOf]; omega
      · go_wp2_with fail
        refine (works_any _).mono ?_
        rintro e w3 ⟨rfl, b3⟩
        go_wp2
        go_ret
        exact ⟨rfl, hbr.trans (b3.mono hbr.size)⟩
    · obtain rfl : r = ls.length := by omega
      go_wp2_with fail
      refine (works_any _).mono ?_
      rintro e w3 ⟨rfl, b3⟩
      go_wp2
      go_ret
      exact ⟨rfl, hbr.trans (b3.mono hbr.size)⟩
end Go.Proofs.Ytgedaoodldohkaa
