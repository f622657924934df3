/- New of a device: a device of noughts that is on, in new memory, or why not; no condition. -/
import Derived.Test.YtcpapdpnnlnemaaDevRead
import Derived.Carry
namespace Go.Proofs.Ytcpapdpnnlnemaa
open Go.RowKit Go.Maps

theorem row_info0 : (Try.prog.info? 33).map (fun i => (i.zero, i.size, i.bytes)) = some (some nilSl, 1, 24) := by kernel_rfl

theorem new_no (n : Int) (w : World) (hn : n < 1 ∨ 4096 < n) : Calls Try.prog 9 #[.int .i64 n] w fun e w' => e = .returned (.tuple #[.pointer none, err 1]) ∧ w = w' := by
  by_cases h0 : n < 1
  · clear hn
    go_enter Try.func9, Try.ntmps9
    go_wp2
    go_ret2
    exact ⟨rfl, rfl⟩
  · have h1 : 4096 < n := by omega
    have hd : decide (n < 1) = false := by simp; omega
    clear hn h0
    go_enter Try.func9, Try.ntmps9
    go_wp2
    go_ret2
    exact ⟨rfl, rfl⟩

/-- A new device is answered. -/
def News (w : World) (n : Nat) (e : Ending) (w' : World) : Prop :=
  ∃ b, e = .returned (.tuple #[ptr b, err 0]) ∧ Dev w' b (fresh n) (fun q => w.heap.size ≤ q ∧ q < w'.heap.size) ∧ Below w.heap.size w w'

theorem made_rows (n : Nat) : (madeCells nilSl.cells (n * 1)).toList = List.replicate n nilSl := by
  apply List.ext_getElem?
  intro j
  by_cases hj : j < n
  · simp [madeCells, hj, Value.cells, Nat.mod_one]
  · simp [madeCells, hj]

theorem fresh_get {n k : Nat} {x : Bk} (h : (fresh n).bk[k]? = some x) : x = ⟨noughts, []⟩ ∧ k < n := by
  have h1 : (fresh n).bk = List.replicate n ⟨noughts, []⟩ := rfl
  rw [h1, List.getElem?_replicate] at h
  split at h
  · simp only [Option.some.injEq] at h
    exact ⟨h.symm, by assumption⟩
  · cases h

theorem new_dev {w w1 : World} {n : Nat} (h1 : 1 ≤ n) (h2 : n ≤ 4096) (c1 : Cel w1 w.heap.size (List.replicate n nilSl) 33) (hz : w.heap.size < w1.heap.size) :
    Dev ((w1.alloc (.map #[] 0)).alloc (.cells #[.slice (some ⟨w.heap.size, 0, none⟩) n n, .map (some w1.heap.size), .bool true, .int .i64 (-1)] 60)) (w1.heap.size + 1) (fresh n)
      (fun q => w.heap.size ≤ q ∧ q < w1.heap.size + 2) := by
  have hm := World.ownsMap_made (H := Value) w1 Try.prog 3 rawR
  have hlen : (fresh n).bk.length = n := List.length_replicate
  have z2 : (w1.alloc (.map #[] 0)).heap.size = w1.heap.size + 1 := by simp
  have hh := Cel.new (w1.alloc (.map #[] 0)) #[.slice (some ⟨w.heap.size, 0, none⟩) n n, .map (some w1.heap.size), .bool true, .int .i64 (-1)] 60
  rw [z2] at hh
  refine ⟨w.heap.size, w1.heap.size, List.replicate n nilSl, fun _ => nilSl, .map [], {
    head := by rw [hlen]; exact hh
    rows := (c1.alloc _).alloc _
    svl := by rw [hlen, List.length_replicate]
    sure := fun k x hx => by
      obtain ⟨rfl, hk⟩ := fresh_get hx
      exact ⟨nilSl, by rw [List.getElem?_replicate, if_pos hk], .inl ⟨rfl, rfl⟩⟩
    map := ((hm.mono (by omega : 0 ≤ 4096)).alloc _)
    keys := fun k x hx => by
      obtain ⟨rfl, hk⟩ := fresh_get hx
      exact ⟨rfl, rfl⟩
    only := fun kl h => by cases h
    loose := fun k x hx => by
      obtain ⟨rfl, hk⟩ := fresh_get hx
      exact RowF.nil _ _
    apart := fun j k _ _ _ => .inl rfl
    off := fun k _ h => by cases h
    fb := ⟨by omega, by omega⟩
    fs := ⟨by omega, by omega⟩
    fm := ⟨by omega, by omega⟩
    fl := fun g hg => by
      have := hg.2
      simp only [World.size_alloc]
      omega
    pos := by rw [hlen]; exact h1
    few := by rw [hlen]; exact h2
    low := by show (-1 : Int) ≤ -1; omega
    high := by show (-1 : Int) ≤ _; omega }⟩

theorem new_ok (n : Nat) (w : World) (h1 : 1 ≤ n) (h2 : n ≤ 4096) : Calls Try.prog 9 #[.int .i64 (n : Int)] w (News w n) := by
  obtain ⟨i0, hi, hz0, hz1, hz2⟩ := info_parts row_info0
  obtain ⟨w1, hmk, o1, g1⟩ := run_make_full (P := Try.prog) w w.heap.size 57 33 i0 nilSl 1 Try.underlying57 hi hz0 hz1 .i64 .i64 n (by rw [hz2]; omega) (by unfold maxLen; omega) (Nat.le_refl _)
  have c1 : Cel w1 w.heap.size (List.replicate n nilSl) 33 := by
    rcases o1.2 with ⟨h, _⟩ | ⟨g, cap, cur, hv, _, hg, _, _, hs, ht⟩
    · cases h
    · simp only [Value.slice.injEq, Option.some.injEq, Addr.mk.injEq] at hv
      obtain ⟨⟨rfl, _⟩, _, rfl⟩ := hv
      rw [List.take_of_length_le (by simp [hs])] at ht
      rw [made_rows] at ht
      unfold Cel
      rw [← ht]
      simpa using hg
  have hb1 : Below w.heap.size w w1 := (Below.refl _ _).grown g1 (Nat.le_refl _) (fun _ h => by cases h)
  have hsz := c1.lt
  have hd := new_dev h1 h2 c1 hsz
  have hmm := @run_makeMap Try.prog
  have t1 : decide ((n : Int) < 1) = false := by simp; omega
  have t2 : decide ((4096 : Int) < (n : Int)) = false := by simp; omega
  have H := Lib.hid (And.intro hd (And.intro hb1 hsz))
  clear hd o1 g1 c1 hb1 hi hz0 hz1 hz2 h1 h2 hsz
  go_enter Try.func9, Try.ntmps9
  go_wp2
  go_ret2
  refine ⟨_, rfl, ?_, ?_⟩
  · have := H.out.1
    simpa using this
  · exact (H.out.2.1.alloc H.out.2.1.size _).alloc (by have := H.out.2.1.size; simp; omega) _
end Go.Proofs.Ytcpapdpnnlnemaa
