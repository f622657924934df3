/- A slice of numbers in new memory, by the program's library and by the statements; condition: few numbers, for the library's one or more. -/
import Derived.Test.YtohcoknnalgjnaaNtCopied
import Derived.Test.YtohcoknnalgjnaaNtKeep
import Derived.Lib.BufferMore
namespace Go.Proofs.Ytohcoknnalgjnaa
open Go.RowKit

/-- append([]int64{}, l...): what it leaves. -/
theorem fresh_copy (l : List Int) (w : World) {va : Option Addr} {vc : Nat} (hl : Fs w (.slice va l.length vc) l) (hn : l.length ≤ 4294967296) : ∃ g cap w', (Builtin.append_ #[25, 25] 25 #[.slice (some ⟨w.heap.size, 0, none⟩) 0 0, .slice va l.length vc]).run Try.prog (w.alloc (.cells #[] 2)) = .ok (.slice (some ⟨g, 0, none⟩) l.length cap) w' ∧ Rn w' g cap l ∧ cap ≤ maxLen ∧ w.heap.size ≤ g ∧ Below w.heap.size w w' := by
  have hA : Below w.heap.size w (w.alloc (.cells #[] 2)) := (Below.refl _ _).alloc (Nat.le_refl _) _
  have ho : Ro kdI 2 (w.alloc (.cells #[] 2)) (fun q => w.heap.size ≤ q) (.slice (some ⟨w.heap.size, 0, none⟩) 0 0) [] :=
    ⟨[], rfl, ⟨rfl, .inr ⟨w.heap.size, 0, #[], rfl, Nat.zero_le _, by have := World.alloc_heap_new w (.cells #[] 2); exact this, Nat.le_refl _, Nat.zero_le _, rfl, rfl⟩⟩, (fun _ h => by cases h), fun q hq => by cases hq; exact Nat.le_refl _⟩
  have hx : Rd kdI (w.alloc (.cells #[] 2)) (fun q => w.heap.size ≤ q) (.slice va l.length vc) l := (hl.old (Nat.le_refl _)).only (Only.of_below hA _)
  obtain ⟨v', w', hr, o', hst, hg, hloc⟩ := run_append_ro int_rows 25 ho hx (by simp; omega)
  have hne : v' ≠ .slice none 0 0 := by
    rintro rfl
    rcases hloc with h | h <;> cases h
  have hb : Below w.heap.size w w' := hA.grown hg (by simp) (fun k e => by cases e; exact Nat.le_refl _)
  simp only [List.nil_append] at o'
  obtain ⟨g, cap, rfl, hrn, hcm, hgS⟩ := rn_of_ro o' hne (by omega)
  have hgw : w.heap.size ≤ g := by
    rcases hloc with h | h
    · cases h; exact Nat.le_refl _
    · simp only [Value.ownBlock, Option.some.injEq, World.size_alloc] at h; omega
  exact ⟨g, cap, w', hr, hrn, hcm, hgw, hb⟩

theorem clone_any (l : List Int) (w : World) {v : Value} (hl : Fs w v l) (hne : l ≠ []) (hn : l.length ≤ 4294967296) : Calls Try.prog 38 #[v] w fun e w' => ∃ g cap, e = .returned (.slice (some ⟨g, 0, none⟩) l.length cap) ∧ Rn w' g cap l ∧ cap ≤ maxLen ∧ w.heap.size ≤ g ∧ Below w.heap.size w w' := by
  obtain ⟨x, hx⟩ : ∃ x, l[0]? = some x := ⟨_, List.getElem?_eq_getElem (List.length_pos_iff.2 hne)⟩
  obtain ⟨b, o, vc, rfl, -, -⟩ := fs_at hl hx
  obtain ⟨g, cap, w', hr, HX⟩ := fresh_copy l w hl hn
  have HX := Lib.hid HX
  have hq := Go.Lib.run_eql_slice_some_nil (P := Try.prog) w (t := 25) (e := 2) ⟨b, o, none⟩ l.length vc Try.underlying25
  clear hl hx hne hn
  go_enter Try.func38, Try.ntmps38
  go_wp2_with (at_builtin; refine nlist_append_run rfl (.tmp 5) (.tmp 6) _ rfl rfl rfl hr ?_)
  go_wp2
  go_ret
  exact ⟨_, _, rfl, HX.out⟩
theorem copied12_any (l : List Int) (w : World) {v : Value} (hl : Fs w v l) (hn : l.length ≤ 2000) : Calls Try.prog 12 #[v] w fun e w' => ∃ g cap, e = .returned (.slice (some ⟨g, 0, none⟩) l.length cap) ∧ Rn w' g cap l ∧ cap ≤ maxLen ∧ w.heap.size ≤ g ∧ Below w.heap.size w w' := by
  obtain ⟨va, vc, rfl, -, -⟩ := hl.shape
  obtain ⟨g, cap, w', hr, HX⟩ := fresh_copy l w hl (by omega)
  have HX := Lib.hid HX
  clear hl hn
  go_enter Try.func12, Try.ntmps12
  go_wp2_with (at_builtin; refine nlist_append_run rfl (.tmp 3) (.tmp 4) _ rfl rfl rfl hr ?_)
  go_wp2
  go_ret
  exact ⟨_, _, rfl, HX.out⟩
end Go.Proofs.Ytohcoknnalgjnaa
