/- The pieces of a string, gone through by a function that is ranged over; no condition. -/
import Derived.Test.YtijkkkiejdaljaaRangeTwo
import Derived.Test.YtijkkkiejdaljaaJrStamp
namespace Go.Proofs.Ytijkkkiejdaljaa
open Go.RowKit
attribute [local go_sem] Oper.semAt_some

theorem pieces_any (a : Option Addr) (k c : Nat) (w : World) : Calls Try.prog 43 #[.slice a k c] w fun e w' => e = .returned (.func (.func 49) #[] #[.pointer (some ⟨w.heap.size, 0, none⟩)]) ∧ w' = w.alloc (.cells #[.slice a k c] 37) := by
  go_enter Try.func43, Try.ntmps43
  go_wp2
  go_ret
  exact ⟨rfl, rfl⟩

/-- The rest of a slice of bytes, and its first bytes. -/
def Tail (v : Value) (l : Bytes) (m : Nat) (x : Value) : Prop := ∃ a c, x = .slice a (l.length - m) c ∧ (∀ W, Bs W v l → Bs W (.slice a (l.length - m) c) (l.drop m)) ∧ ∀ q, (Value.slice a (l.length - m) c).ownBlock = some q → v.ownBlock = some q

theorem Tail.start {w : World} {v : Value} {l : Bytes} (h : Bs w v l) : Tail v l 0 v := by
  obtain ⟨a, c, rfl, _⟩ := h.shape
  exact ⟨a, c, rfl, fun W hW => by simpa using hW, fun q hq => hq⟩

def lenV : Value → Nat
  | .slice _ n _ => n
  | _ => 0

theorem Bs.lenEq {w : World} {a : Option Addr} {n c : Nat} {l : Bytes} (h : Bs w (.slice a n c) l) : n = l.length := by
  obtain ⟨a', c', e, _⟩ := h
  simp only [Value.slice.injEq] at e
  exact e.2.1

set_option maxHeartbeats 1000000 in
theorem pieces1_in (n : Nat) (hn : 1 ≤ n) (l Bn : Nat) {v : Value} {bl : Bytes} (J : Nat → World → Prop) (Jx : World → Prop) (hJ : ∀ k W, J k W → Bs W v bl)
    (hY : ∀ k x W, J k W → k < nPieces bl.length → Bs W x (pieceAt bl k) → YieldAt Fence.wide (n - 1) Try.prog l #[x] W fun e W' => (e = .returned (.bool true) ∧ J (k + 1) W') ∨ (e = .returned (.bool false) ∧ Jx W'))
    (W : World) (hBn : W.cell? ⟨Bn, 0, none⟩ = some v) (h0 : J 0 W) :
    CallsIn Fence.wide n Try.prog 49 #[.func (.yield l) #[] #[], .pointer (some ⟨Bn, 0, none⟩)] W fun e W' => (∃ r, e = .returned r) ∧ (J (nPieces bl.length) W' ∨ Jx W') := by
  have hv0 := hJ 0 W h0
  have hT0 := Tail.start hv0
  obtain ⟨va, vc, hv, -⟩ := hv0.shape
  have H0 := Lib.hid (And.intro h0 (And.intro hT0 hv0.len))
  rw [hv] at hBn
  have HV := Lib.hid hv
  clear hv0 hT0 h0 hv
  refine callsIn_of_wp Try.func49 rfl trivial ?_
  simp only [Try.ntmps49, List.size_toArray, List.length_cons, List.length_nil, Nat.reduceAdd, Nat.reduceSub, Array.replicate_succ, Array.replicate_zero, List.push_toArray, List.append_toArray, List.nil_append, List.cons_append]
  gi_wp2
  gi_loopw [3] (fun p wr => ∃ k, k + 1 ≤ nPieces bl.length ∧ Tail v bl (480 * k) p ∧ J k wr) (fun p _ => lenV p)
  case atStart =>
    refine ⟨0, nPieces_pos _, ?_, H0.out.1⟩
    have := H0.out.2.1
    rw [HV.out] at this ⊢
    exact this
  case round =>
    obtain ⟨k, hk, ⟨a, c, rfl, hT, hO⟩, hJk⟩ := hrel
    have hb := hT wr (hJ k wr hJk)
    have hbl := H0.out.2.2
    by_cases hm : 480 * k + 480 < bl.length
    · obtain ⟨x, hx, hxb⟩ := run_slice_to_bs bt wr hb .i64 480 (by rw [List.length_drop]; omega)
      have hlt : (480 : Int) < ((bl.length - 480 * k : Nat) : Int) := by omega
      obtain ⟨fn, tmps, assign, body, hy, hR⟩ := hY k x wr hJk hk hxb
      have hr2 := run_slice_low bt (rfl : Value.slice a (bl.length - 480 * k) c = .slice a (bl.length - 480 * k) c) .i64 480 (show 480 ≤ bl.length - 480 * k by omega)
      have hk1 := nPieces_end hm
      have hlen : bl.length - 480 * k - 480 = bl.length - 480 * (k + 1) := by omega
      have hT2 : Tail v bl (480 * (k + 1)) (sliced a 480 (bl.length - 480 * k) c 1) := by
        unfold sliced
        rw [hlen]
        refine ⟨_, _, rfl, fun W hW => ?_, fun q hq => ?_⟩
        · have := bs_from (hT W hW) 480 (by omega)
          rw [List.drop_drop, show 480 * k + 480 = 480 * (k + 1) by omega] at this
          unfold sliced at this
          rw [hlen] at this
          exact this
        · have := sliced_own a 480 (bl.length - 480 * k) c 1 (bl.length - 480 * k) c
          unfold sliced at this
          rw [hlen] at this
          rw [this] at hq
          exact hO q hq
      have HH := Lib.hid (And.intro hT2 (And.intro hk1 (And.intro hm hlen)))
      obtain ⟨x2, hx2⟩ : ∃ x2, sliced a 480 (bl.length - 480 * k) c 1 = x2 := ⟨_, rfl⟩
      have hl2 : lenV x2 = bl.length - 480 * k - 480 := by rw [← hx2]; rfl
      rw [hx2] at hr2
      rw [show ((480 : Nat) : Int) = 480 from rfl] at hx hr2
      have HX := Lib.hid (And.intro hx2 hl2)
      clear hT2 hk1 hlen hb hxb hJk hT hO hx2 hl2 hm
      gi_wp2
      refine hR.mono ?_
      rintro e W3 (⟨rfl, hJ3⟩ | ⟨rfl, hJx3⟩)
      · gi_wp2
        go_roundw
        case rel => exact ⟨k + 1, HH.out.2.1, by rw [← HX.out.1]; exact HH.out.1, hJ3⟩
        case measure =>
          show lenV x2 < bl.length - 480 * k
          rw [HX.out.2]
          have := HH.out.2.2.1
          omega
      · gi_wp2
        refine bodyPost_ret (results_none rfl _ _ _) rfl ?_
        exact ⟨⟨_, rfl⟩, .inr hJx3⟩
    · have hk1 : k + 1 = nPieces bl.length := by
        have := nPieces_more (n := bl.length) (k := k)
        omega
      have hxb : Bs wr (.slice a (bl.length - 480 * k) c) (pieceAt bl k) := by
        unfold pieceAt
        rw [List.take_of_length_le (by rw [List.length_drop]; omega)]
        exact hb
      obtain ⟨fn, tmps, assign, body, hy, hR⟩ := hY k _ wr hJk hk hxb
      have hge : ((bl.length - 480 * k : Nat) : Int) ≤ 480 := by omega
      have HH := Lib.hid hk1
      clear hb hxb hJk hT hO hm hk1
      gi_wp2
      refine hR.mono ?_
      rintro e W3 (⟨rfl, hJ3⟩ | ⟨rfl, hJx3⟩)
      · gi_wp2
        go_end0
        exact ⟨⟨_, rfl⟩, .inl (by rw [← HH.out]; exact hJ3)⟩
      · gi_wp2
        go_end0
        exact ⟨⟨_, rfl⟩, .inr hJx3⟩
end Go.Proofs.Ytijkkkiejdaljaa
