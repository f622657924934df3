/- The keys of what is loose, sorted: the numbers of the blocks that have something loose, rising; no condition. -/
import Derived.Test.YtcpapdpnnlnemaaDevLaid
import Derived.Test.YtcpapdpnnlnemaaDevWrote
import Derived.RangeFuncNested
import Derived.RangeFuncBound
import Derived.RangeFuncCalls
import Derived.RangeFuncLeaves
import Derived.OwnWalkIn
import Derived.TacticsInMore
import Derived.LoopNIn
import Derived.LoopIn
namespace Go.Proofs.Ytcpapdpnnlnemaa
open Go.RowKit Go.Maps Go.Sort Go.Shelf

/-- slices.Sort's two contracts at this program. -/
theorem sortsA (m : Nat) : AnyZI.SortsIn Try.prog Try.sortedA_ren Fence.wide m :=
  ⟨fun blk off cap ss W hH hblk hsz => callsIn_wide.2 (AnyM.slices_Sort_int Try.sortA blk off cap ss W hH hblk hsz),
   fun p cap W => callsIn_wide.2 (AnyM.slices_Sort_int_none Try.sortA p cap W)⟩

theorem keys_call (n : Nat) (mb : Option Nat) (W : World) : CallsIn Fence.wide n Try.prog 62 #[.map mb] W fun e w' => e = .returned (.func (.func 70) #[] #[.pointer (some ⟨W.heap.size, 0, none⟩)]) ∧ w' = W.alloc (.cells #[.map mb] 58) :=
  AnyZI.keys_in Try.keysA Fence.wide n trivial rfl mb W

set_option maxHeartbeats 1000000 in
theorem sorted_call (n : Nat) (hn : 4 ≤ n) (mb nn : Nat) (D0 : DataW Value) (w : World) (hown : w.ownsMap Try.prog 3 rawR mb nn D0) (hmax : Maps.size D0 ≤ maxLen) (hbytes : Maps.size D0 * 8 ≤ 140737488355328) :
    CallsIn Fence.wide n Try.prog 61 #[.func (.func 70) #[] #[.pointer (some ⟨w.heap.size, 0, none⟩)]] (w.alloc (.cells #[.map (some mb)] 58)) fun e w' => ∃ (v : Value) (ss : List Int), e = .returned v ∧ ss.Perm (intKeys D0) ∧
      w'.ownsRow (w.heap.size + 1) 3 1 v ss.length ((ss.mergeSort (fun x y => decide (x ≤ y))).map encZ) ∧ (v = .slice none 0 0 ↔ ss = []) ∧ Below (w.heap.size + 1) (w.alloc (.cells #[.map (some mb)] 58)) w' := by
  have hbl := hown.lt
  have hseq : SeqGives Fence.wide (n - 1 - 1 - 1) Try.prog 70 #[.pointer (some ⟨w.heap.size, 0, none⟩)] encZ (fun ss => ss.Perm (intKeys D0)) (Maps.size D0) (w.alloc (.cells #[.map (some mb)] 58)) :=
    AnyZI.keys_gives (ρ := Try.keysA_ren) { Try.keysA with } Fence.wide _ trivial rfl (by omega) w.heap.size mb nn D0 _ (by simp) (by simp) (by
      obtain ⟨es, clock, hb, Ft, hs, hD⟩ := hown
      exact ⟨es, clock, (Below.heap_alloc _ _ mb hbl).trans hb, Ft, hs, hD⟩)
  have cS := AnyZI.sorted_in Try.sortedA Fence.wide n trivial trivial trivial trivial rfl hn (sortsA _) (enters_of Try.func69 (by kernel_rfl) rfl) 70 #[.pointer (some ⟨w.heap.size, 0, none⟩)] trivial (enters_of Try.func70 (by kernel_rfl) rfl) _ _ hmax hbytes _ hseq
  have z : (w.alloc (.cells #[.map (some mb)] 58)).heap.size = w.heap.size + 1 := by simp
  rw [z] at cS
  exact cS

theorem looseAt_get {l : List Bk} {k : Nat} {x : Bk} (h : l[k]? = some x) : looseAt l k = x.loose := by simp [looseAt, h]

theorem mem_loosen {l : List Bk} {k : Nat} : k ∈ loosen l ↔ k < l.length ∧ looseAt l k ≠ [] := by
  unfold loosen
  rw [List.mem_filter, List.mem_range]
  simp

theorem loosen_nodup (l : List Bk) : (loosen l).Nodup := (List.nodup_range (n := l.length)).filter _

theorem loosen_sorted (l : List Bk) : ((loosen l).map fun k : Nat => (k : Int)).Pairwise (fun x y => decide (x ≤ y) = true) := by
  rw [List.pairwise_map]
  refine (List.Pairwise.filter _ (List.pairwise_le_range (n := l.length))).imp ?_
  intro a b h
  simpa using h

theorem has_iff {w : World} {b sb mb : Nat} {sv : List Value} {lv : Nat → Value} {Dm : DataW Value} {D : Dv} {F : Nat → Prop} (h : DevAt w b sb mb sv lv Dm D F) (x : Int) :
    Maps.has Dm (.int .i64 x) = true ↔ ∃ k, k ∈ loosen D.bk ∧ x = (k : Int) := by
  constructor
  · intro hx
    obtain ⟨k, hk, e⟩ := h.only _ hx
    have e' : x = (k : Int) := by simpa [keyL] using e
    obtain ⟨y, hy⟩ : ∃ y, D.bk[k]? = some y := ⟨_, List.getElem?_eq_getElem hk⟩
    refine ⟨k, mem_loosen.2 ⟨hk, ?_⟩, e'⟩
    have := (h.keys k y hy).1
    rw [show keyL k = .int .i64 x from by rw [e'], hx] at this
    rw [looseAt_get hy]
    intro e0
    rw [e0] at this
    simp at this
  · rintro ⟨k, hk, rfl⟩
    obtain ⟨hk, hne⟩ := mem_loosen.1 hk
    obtain ⟨y, hy⟩ : ∃ y, D.bk[k]? = some y := ⟨_, List.getElem?_eq_getElem hk⟩
    rw [looseAt_get hy] at hne
    have := (h.keys k y hy).1
    rw [this]
    simpa using hne

theorem sorted_is {w : World} {b sb mb : Nat} {sv : List Value} {lv : Nat → Value} {Dm : DataW Value} {D : Dv} {F : Nat → Prop} (h : DevAt w b sb mb sv lv Dm D F) {ss : List Int} (hp : ss.Perm (intKeys Dm)) :
    ss.mergeSort (fun x y => decide (x ≤ y)) = (loosen D.bk).map fun k : Nat => (k : Int) := by
  obtain ⟨es, rfl, hpw, hkl⟩ := h.map.entries (int_keyed Try.underlying3)
  have hk : ∀ p ∈ es, ∃ x, p.1 = .int .i64 x := fun p hp => by
    obtain ⟨k, _, e⟩ := h.only p.1 (ownsMap_has h.map es rfl p hp)
    exact ⟨_, e⟩
  have hnd : ((loosen D.bk).map fun k : Nat => (k : Int)).Nodup := by
    rw [List.Nodup, List.pairwise_map]
    exact (loosen_nodup D.bk).imp fun hne e => hne (by omega)
  have h1 := perm_intKeys hpw hk hnd (fun x => by
    rw [has_iff h x, List.mem_map]
    exact ⟨fun ⟨k, hk, e⟩ => ⟨k, hk, e.symm⟩, fun ⟨k, hk, e⟩ => ⟨k, hk, e.symm⟩⟩)
  rw [mergeSort_of_perm_i (hp.trans h1.symm)]
  exact List.mergeSort_of_pairwise (loosen_sorted D.bk)

theorem keys_few {w : World} {b sb mb : Nat} {sv : List Value} {lv : Nat → Value} {Dm : DataW Value} {D : Dv} {F : Nat → Prop} (h : DevAt w b sb mb sv lv Dm D F) : Maps.size Dm ≤ 4096 :=
  Nat.le_trans (size_le (h.map.tidy (int_keyed Try.underlying3)) h.only (ownsMap_has h.map)) h.few
end Go.Proofs.Ytcpapdpnnlnemaa
