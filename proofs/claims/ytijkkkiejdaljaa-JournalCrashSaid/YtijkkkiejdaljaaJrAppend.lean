/- Append of a journal: a string more, or why not; conditions: as of write. -/
import Derived.Test.YtijkkkiejdaljaaJrWrite
import Derived.Test.YtijkkkiejdaljaaJrMark
namespace Go.Proofs.Ytijkkkiejdaljaa
open Go.RowKit

section
variable {w w' : World} {jb b : Nat} {J : Jn} {D : Dv} {F : Nat → Prop}

theorem append_nil (v : Value) (w : World) : Calls Try.prog 11 #[.pointer none, v] w fun e w' => e = .returned (.int .i64 2) ∧ w = w' := by
  go_enter Try.func11, Try.ntmps11
  go_wp2
  go_ret
  exact ⟨rfl, rfl⟩
theorem append_dead (h : JAt w jb b J) (hd : J.dead = true) (v : Value) : Calls Try.prog 11 #[ptr jb, v] w fun e w' => e = .returned (.int .i64 3) ∧ w = w' := by
  have c8 := h.cells.2.2.2.2.2.2.2.2
  rw [hd] at c8
  clear h hd
  go_enter Try.func11, Try.ntmps11
  go_wp2
  go_ret
  exact ⟨rfl, rfl⟩
theorem append_full (h : JAt w jb b J) (hJ : J.Fit) (hd : J.dead = false) {v : Value} {l : Bytes} (hv : Bs w v l) (hr : J.size < J.ahead + nBlocks l.length) :
    Calls Try.prog 11 #[ptr jb, v] w fun e w' => e = .returned (.int .i64 7) ∧ Below w.heap.size w w' := by
  have c8 := h.cells.2.2.2.2.2.2.2.2
  rw [hd] at c8
  obtain ⟨va, vc, rfl, _⟩ := hv.shape
  have hlen := hv.len
  have hq : (J.size : Int) - (J.ahead : Int) < (nBlocks l.length : Nat) := by omega
  have H := Lib.hid (And.intro h hJ)
  clear h hd hJ hr hv
  go_enter Try.func11, Try.ntmps11
  go_wp2_with fail
  refine (blocks_any _ _ (by omega) (by omega)).mono ?_
  rintro e w1 ⟨rfl, rfl⟩
  go_wp2_with fail
  refine (free_any H.out.1 H.out.2).mono ?_
  rintro e w1 ⟨rfl, m, rfl⟩
  go_wp2
  go_ret
  exact ⟨rfl, below_drewN (Below.refl _ _) _⟩

/-- What an Append leaves, where there is room. -/
def appJ (J : Jn) (D : Dv) (l : Bytes) : Jn := if (writeD J D l).2.2 = 0 then J.more (writeD J D l).2.1 else J.dies
def Appends (w : World) (jb b : Nat) (F : Nat → Prop) (c : Int) (D' : Dv) (J' : Jn) (e : Ending) (w' : World) : Prop :=
  e = .returned (err c) ∧ Dev w' b D' (Grow F w w') ∧ JAt w' jb b J' ∧ Only (fun q => F q ∨ q = jb) w w'

set_option maxHeartbeats 1000000 in
theorem append_go (h : JAt w jb b J) (hJ : J.Fit) (hD : Dev w b D F) (hjb : ¬ F jb) {n : Nat} (hu : Upto D n) {l : Bytes} (hn : n + l.length + 10 < 4294967296) (hd : J.dead = false) (hr : J.ahead + nBlocks l.length ≤ J.size)
    (hf : J.fr + J.size ≤ D.bk.length) (ho : D.on = true) (hm : J.seq + J.held + 1 < 18446744073709551616) {v : Value} (hv : Bs w v l) (hoff : ∀ q, v.ownBlock = some q → ¬ F q) :
    Calls Try.prog 11 #[ptr jb, v] w (Appends w jb b F (writeD J D l).2.2 (writeD J D l).1 (appJ J D l)) := by
  have c8 := h.cells.2.2.2.2.2.2.2.2
  rw [hd] at c8
  obtain ⟨va, vc, rfl, _⟩ := hv.shape
  have hlen := hv.len
  have hq : (nBlocks l.length : Nat) ≤ (J.size : Int) - (J.ahead : Int) := by omega
  have H := Lib.hid (And.intro h (And.intro hJ (And.intro hD (And.intro hjb (And.intro hu (And.intro hn (And.intro hr (And.intro hf (And.intro ho (And.intro hv (And.intro hoff hm)))))))))))
  clear h hd hJ hr hv hD hjb hu hn hf ho hoff hm
  unfold Appends
  go_enter Try.func11, Try.ntmps11
  go_wp2_with fail
  refine (blocks_any _ _ (by omega) (by omega)).mono ?_
  rintro e w1 ⟨rfl, rfl⟩
  go_wp2_with fail
  refine (free_any H.out.1 H.out.2.1).mono ?_
  rintro e w1 ⟨rfl, m, rfl⟩
  obtain ⟨h, hJ, hD, hjb, hu, hn, hr, hf, ho, hv, hoff, hm⟩ := H.out
  have bd : Below w.heap.size w (w.drewN m) := below_drewN (Below.refl _ _) m
  have hw := write_any (h.below bd) hJ (hD.below bd) hjb hu hn hr hf ho (hv.below bd) hoff
  have hHW := Lib.hid hw
  clear h hJ hD hjb hu hn hr hf ho hv hoff hm bd hw
  go_wp2_with fail
  refine hHW.out.mono ?_
  rintro e w2 ⟨rfl, hd2, ho2⟩
  have ho2' : Only F w w2 := (Only.of_below (below_drewN (Below.refl _ _) m) F).trans ho2
  have hj2 := H.out.1.only ho2' H.out.2.2.2.1
  have hd2' : Dev w2 b (writeD J D l).1 (Grow F w w2) := hd2
  have h3 := hj2.alloc (.cells #[.int .i64 ((writeD J D l).2.1.1 : Int), .int .u64 ((writeD J D l).2.1.2 : Int)] 65)
  have b3 : Below w2.heap.size w2 (w2.alloc (.cells #[.int .i64 ((writeD J D l).2.1.1 : Int), .int .u64 ((writeD J D l).2.1.2 : Int)] 65)) := (Below.refl _ _).alloc (Nat.le_refl _) _
  have d3 := hd2'.below b3
  have o3 := ho2'.trans (Only.of_below b3 F)
  have hnG : ∀ {W : World}, ¬ Grow F w W jb := fun e => by
    rcases e with e | e
    · exact H.out.2.2.2.1 e
    · have := H.out.1.lt; omega
  have H3 := Lib.hid (And.intro h3 (And.intro d3 o3))
  have hlt : w2.heap.size ≠ jb := fun e => by have := hj2.lt; omega
  clear hd2 ho2 ho2' hd2' b3 d3 o3 h3 hj2 c8 hHW
  by_cases hc : (writeD J D l).2.2 = 0
  · have hA : appJ J D l = J.more (writeD J D l).2.1 := by unfold appJ; rw [if_pos hc]
    rw [hc]
    have HA := Lib.hid (And.intro hA hc)
    clear hc hA
    obtain ⟨t, ht⟩ : ∃ t, (writeD J D l).2.1 = t := ⟨_, rfl⟩
    have H4 := Lib.hid (And.intro ht H3.out)
    rw [ht]
    clear ht
    go_wp2_with fail
    have h5 := H4.out.2.1
    rw [H4.out.1] at h5
    have d5 := H4.out.2.2.1
    have o5 := H4.out.2.2.2
    rw [H4.out.1] at d5 o5
    refine (hold_any h5 H.out.2.2.2.2.2.2.2.2.2.2.2 t).mono ?_
    rintro e w6 ⟨rfl, h6, o6⟩
    have d6 := d5.other o6 fun q hq e => hnG (e ▸ hq)
    have z6 := o6.size
    have z5 := o5.size
    have H6 := Lib.hid (And.intro h6 (And.intro (d6.widen (F' := Grow F w w6) (fun q hq => hq.imp id fun hq => ⟨hq.1, by have := d5.fl q (.inr hq); omega⟩) (fun q hq => by
      rcases hq with hq | hq
      · have := d5.fl q (.inl hq); omega
      · exact hq.2)) ((o5.mono (T := fun q => F q ∨ q = jb) fun q _ hq => .inl hq).trans (o6.mono fun q _ hq => .inr hq))))
    clear h5 d5 o5 h6 o6 d6 z6 z5
    go_wp2
    go_ret
    rw [HA.out.2, HA.out.1, H4.out.1]
    exact ⟨rfl, H6.out.2.1, H6.out.1, H6.out.2.2⟩
  · have hA : appJ J D l = J.dies := by unfold appJ; rw [if_neg hc]
    obtain ⟨c, hcx⟩ : ∃ c, (writeD J D l).2.2 = c := ⟨_, rfl⟩
    rw [hcx] at hc ⊢
    have hq2 : (c != 0) = true := by simpa using hc
    have HA := Lib.hid (And.intro hA hcx)
    have c8 := H3.out.1.cells.2.2.2.2.2.2.2.2
    have f8 := Cel.frozen H3.out.1 8
    clear hc hA hcx
    go_wp2
    go_ret
    have h6 := H3.out.1.set 8 (.bool true)
    have o6 := (Only.refl (· = jb) (w2.alloc (.cells #[.int .i64 ((writeD J D l).2.1.1 : Int), .int .u64 ((writeD J D l).2.1.2 : Int)] 65))).setCell (p := ⟨jb, 8, none⟩) (.inl rfl) (.bool true)
    have d6 := H3.out.2.1.other o6 fun q hq e => hnG (e ▸ hq)
    have z6 := o6.size
    have z5 := H3.out.2.2.size
    rw [HA.out.1, HA.out.2]
    refine ⟨rfl, d6.widen (fun q hq => hq.imp id fun hq => ⟨hq.1, by have := H3.out.2.1.fl q (.inr hq); omega⟩) (fun q hq => ?_), h6, (H3.out.2.2.mono fun q _ hq => .inl hq).trans (o6.mono fun q _ hq => .inr hq)⟩
    rcases hq with hq | hq
    · have := H3.out.2.1.fl q (.inl hq); omega
    · exact hq.2
end
end Go.Proofs.Ytijkkkiejdaljaa
