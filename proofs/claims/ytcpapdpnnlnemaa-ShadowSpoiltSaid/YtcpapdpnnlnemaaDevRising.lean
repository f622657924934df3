/- The blocks that have something loose, gone through rising by a function that is ranged over: each is handed to the round, in order; condition: a round keeps the device's block, its map and whatever cells were laid since. -/
import Derived.Test.YtcpapdpnnlnemaaDevKeys
import Derived.Test.YtcpapdpnnlnemaaDevWrite
namespace Go.Proofs.Ytcpapdpnnlnemaa
open Go.RowKit Go.Maps Go.Sort Go.Shelf
attribute [local go_sem] Oper.semAt_some

/-- Cells laid from block B on stay as they are. -/
def KeepCells (B : Nat) (W W' : World) : Prop := W.heap.size ≤ W'.heap.size ∧ ∀ q cs t fr, B ≤ q → W.heap[q]? = some (.cells cs t fr) → W'.heap[q]? = some (.cells cs t fr)

theorem KeepCells.refl (B : Nat) (W : World) : KeepCells B W W := ⟨Nat.le_refl _, fun _ _ _ _ _ h => h⟩
theorem KeepCells.trans {B : Nat} {X Y Z : World} (h : KeepCells B X Y) (k : KeepCells B Y Z) : KeepCells B X Z := ⟨Nat.le_trans h.1 k.1, fun q cs t fr hq hc => k.2 q cs t fr hq (h.2 q cs t fr hq hc)⟩

theorem owns_slice {w : World} {base n : Nat} {e : TypeId} {v : Value} {xs : List Value} (h : w.ownsRow base e 1 v n xs) : ∃ a cap, v = .slice a n cap ∧ n ≤ 9223372036854775807 ∧ ∀ (i : Nat) (u : Value), xs[i]? = some u → ∃ (g : Nat) (cs : Array Value) (t : TypeId), a = some ⟨g, 0, none⟩ ∧ base ≤ g ∧ w.heap[g]? = some (.cells cs t (0, 0)) ∧ cs[i]? = some u := by
  rcases h.2 with ⟨rfl, rfl⟩ | ⟨g, cap, cur, rfl, hb, hg, hn, hm, hs, ht⟩
  · refine ⟨none, 0, rfl, by omega, fun i u hi => ?_⟩
    have := h.1
    have := (List.getElem?_eq_some_iff.1 hi).1
    omega
  · refine ⟨_, cap, rfl, by unfold maxLen at hm; omega, fun i u hi => ⟨g, cur, e, rfl, hb, hg, ?_⟩⟩
    rw [← ht] at hi
    have hlt := (List.getElem?_eq_some_iff.1 hi).1
    rw [List.getElem?_take_of_lt (by simp at hlt; omega)] at hi
    simpa using hi

set_option maxRecDepth 100000 in
set_option maxHeartbeats 2000000 in
theorem rising_in (n : Nat) (hn : 6 ≤ n) {l b sb mb B : Nat} {sv : List Value} {lv : Nat → Value} {Dm : DataW Value} {D : Dv} {F : Nat → Prop} {J : Nat → World → Prop} {w : World} (h : DevAt w b sb mb sv lv Dm D F) (hB : B ≤ w.heap.size)
    (hst : ∀ W, Below w.heap.size w W → J 0 W) (hJ : ∀ i W, J i W → W.heap[b]? = w.heap[b]? ∧ W.heap[mb]? = w.heap[mb]?)
    (hY : ∀ i k W, J i W → (loosen D.bk)[i]? = some k → YieldAt Fence.wide (n - 1) Try.prog l #[.int .i64 (k : Int), lv k] W fun e W' => e = .returned (.bool true) ∧ J (i + 1) W' ∧ KeepCells B W W') :
    CallsIn Fence.wide n Try.prog 54 #[ptr b, .func (.yield l) #[] #[]] w fun e W' => (∃ v, e = .returned v) ∧ J (loosen D.bk).length W' := by
  have c1 := h.cells.2.1
  have hsz := keys_few h
  have cK := fun mb W => keys_call (n - 1) mb W
  have cS := sorted_call (n - 1) (by omega) mb 4096 Dm w h.map (by unfold maxLen; omega) (by omega)
  have hfK : Fence.wide.fn 62 := trivial
  have hfS : Fence.wide.fn 61 := trivial
  have h1n : 1 ≤ n := by omega
  refine callsIn_of_wp Try.func54 rfl trivial ?_ rfl
  simp only [Try.ntmps54, List.size_toArray, List.length_cons, List.length_nil, Nat.reduceAdd, Nat.reduceSub, Array.replicate_succ, Array.replicate_zero, List.push_toArray, List.append_toArray, List.nil_append, List.cons_append]
  gi_wp2_with (first
    | (gi_at_call 62; refine (cK _ _).mono ?_; rintro e w' ⟨rfl, rfl⟩)
    | (gi_at_call 61; refine cS.mono ?_; rintro e w' ⟨v, ss, rfl, hS, hrow, hnil, hb⟩; obtain ⟨a, cap, rfl, hmax, hcells⟩ := owns_slice hrow; clear hrow hnil))
  clear cK cS
  rw [sorted_is h hS, List.map_map] at hcells
  have hlen : ss.length = (loosen D.bk).length := by
    have := congrArg List.length (sorted_is h hS)
    simpa using this
  rw [hlen] at hmax ⊢
  have hbw : RowKit.Below w.heap.size w w' := ((Below.refl _ _).alloc (Nat.le_refl _) _).trans (hb.mono (by omega))
  have hJ0 := hst w' hbw
  clear hS hlen hb
  have HJ := Lib.hid hJ
  have HY := Lib.hid hY
  have HC := Lib.hid hcells
  have H := Lib.hid h
  have HM := Lib.hid (fun (W : World) (hW : W.heap[b]? = w.heap[b]? ∧ W.heap[mb]? = w.heap[mb]?) => ownsMap_kept' h.map hW.2)
  have HL := Lib.hid (fun (k : Nat) (hk : k ∈ loosen D.bk) => (mem_loosen.1 hk).1)
  have hfew := h.few
  clear hst hJ hY hcells h c1 hsz hbw
  by_cases hpos : 0 < (loosen D.bk).length
  · obtain ⟨g, cs, t, rfl, hg, hcs, hc0⟩ := HC.out 0 _ (by rw [List.getElem?_map, List.getElem?_eq_getElem hpos]; rfl)
    have HC' : Hid (∀ (i k : Nat), (loosen D.bk)[i]? = some k → cs[i]? = some (.int .i64 (k : Int))) := Lib.hid (fun i k hk => by
      obtain ⟨g', cs', t', e1, _, e3, e4⟩ := HC.out i (.int .i64 (k : Int)) (by rw [List.getElem?_map, hk]; rfl)
      cases e1
      rw [hcs] at e3
      cases e3
      exact e4)
    have HG := Lib.hid hcs
    clear HC hc0 hcs
    gi_loopw [13] (fun i wr => ∃ r : Nat, r ≤ (loosen D.bk).length ∧ i = .int .i64 r ∧ J r wr ∧ KeepCells B w' wr) (fun i _ => (loosen D.bk).length - (Go.RowKit.intOf i).toNat)
    case atStart => exact ⟨0, Nat.zero_le _, rfl, hJ0, KeepCells.refl _ _⟩
    case round =>
      obtain ⟨r, hr, rfl, hJr, hKr⟩ := hrel
      by_cases hlt : r < (loosen D.bk).length
      · obtain ⟨k, hk⟩ : ∃ k, (loosen D.bk)[r]? = some k := ⟨_, List.getElem?_eq_getElem hlt⟩
        have hkl := HL.out k (List.mem_of_getElem? hk)
        obtain ⟨x, hx⟩ : ∃ x, D.bk[k]? = some x := ⟨_, List.getElem?_eq_getElem hkl⟩
        have hj := HJ.out r wr hJr
        have hgw := hKr.2 g cs t (0, 0) (by omega) HG.out
        have hcell : wr.cell? ⟨g, r, none⟩ = some (.int .i64 (k : Int)) := by simp [World.cell?, hgw, HC'.out r k hk]
        have hc1 : wr.cell? ⟨b, 1, none⟩ = some (.map (some mb)) := (World.cell?_of_block (w := w) (a := ⟨b, 1, none⟩) hj.1).trans H.out.cells.2.1
        have hlook := look_own (HM.out wr hj) (k := k) (by omega) (H.out.keys k x hx).2
        obtain ⟨fn, tmps, assign, body, hy, hR⟩ := HY.out r k wr hJr hk
        have H2 := Lib.hid hJr
        have H3 := Lib.hid hKr
        have H4 := Lib.hid hR
        clear hk hx hj hgw hJr hKr hR
        gi_wp2
        refine H4.out.mono ?_
        rintro e W3 ⟨rfl, hJ3, hk3⟩
        have H5 := Lib.hid (And.intro hJ3 hk3)
        clear hJ3 hk3
        gi_wp2
        go_roundw
        case rel => exact ⟨r + 1, by omega, by go_num, H5.out.1, H3.out.trans H5.out.2⟩
        case measure => simp [Go.RowKit.intOf]; omega
      · obtain rfl : r = (loosen D.bk).length := by omega
        have H2 := Lib.hid hJr
        clear hJr hKr
        gi_wp2
        go_end0
        exact ⟨⟨_, rfl⟩, H2.out⟩
  · have hz : (loosen D.bk).length = 0 := by omega
    have H0 := Lib.hid hJ0
    clear HC hJ0
    rw [hz] at hpos hmax ⊢
    gi_loopw [13] (fun i wr => i = .int .i64 (0 : Int) ∧ wr = w') (fun i _ => (Go.RowKit.intOf i).toNat)
    case atStart => exact ⟨rfl, rfl⟩
    case round =>
      obtain ⟨rfl, rfl⟩ := hrel
      gi_wp2
      go_end0
      exact ⟨⟨_, rfl⟩, by rw [hz]; exact H0.out⟩
end Go.Proofs.Ytcpapdpnnlnemaa
