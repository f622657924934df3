/- The functions that make blocks of 512 bytes: each answers a new block of its own and writes nothing that was there; condition: what is copied has at most 512 bytes. -/
import Derived.Test.YtcpapdpnnlnemaaFoot
import Derived.Laws.CopyOwn
namespace Go.Proofs.Ytcpapdpnnlnemaa
open Go.RowKit

theorem Ow.cel {w : World} {base g n : Nat} {e : TypeId} {l : List UInt8} (h : Ow w base e (.slice (some ⟨g, 0, none⟩) n n) l) : Cel w g (bvs l) e ∧ base ≤ g ∧ l.length = n := by
  rcases h.2 with ⟨h2, _⟩ | ⟨g', cap', cur, hv, hbg, hg, hn, hm, hs, ht⟩
  · cases h2
  · simp only [Value.slice.injEq, Option.some.injEq, Addr.mk.injEq] at hv
    obtain ⟨⟨rfl, _⟩, hln, rfl⟩ := hv
    have : cur.toList = bvs l := by rw [← ht, List.take_of_length_le (by simp [hs, ← hln])]
    refine ⟨?_, hbg, hln.symm⟩
    unfold Cel
    rw [← this]
    simpa using hg

/-- A block is made: v reads as l, and nothing that was there has turned. -/
def Makes (w : World) (l : Bytes) (e : Ending) (w' : World) : Prop := ∃ g, e = .returned (.slice (some ⟨g, 0, none⟩) 512 512) ∧ Cel w' g (bvs l) 5 ∧ w.heap.size ≤ g ∧ Below w.heap.size w w'

theorem Makes.blk {w w' : World} {l : Bytes} {e : Ending} (h : Makes w l e w') (hl : l.length = 512) : ∃ v, e = .returned v ∧ Blk w' v l ∧ (∀ g, v.ownBlock = some g → w.heap.size ≤ g) ∧ Below w.heap.size w w' := by
  obtain ⟨g, rfl, hc, hg, hb⟩ := h
  exact ⟨_, rfl, ⟨g, rfl, hc, hl⟩, (fun g' e => by cases e; exact hg), hb⟩

/-- Bytes with noughts behind them, 512 in all. -/
def padded (l : Bytes) : Bytes := l ++ List.replicate (512 - l.length) 0
theorem padded_full {l : Bytes} (h : l.length = 512) : padded l = l := by simp [padded, h]
theorem pad_gen (n : Nat) (l : Bytes) : splice (bvs (List.replicate n 0)) 0 (bvs l) = bvs (l ++ List.replicate (n - l.length) 0) := by
  simp [splice, bvs, List.drop_replicate]
theorem padded_nil : padded [] = noughts := rfl
theorem padded_length {l : Bytes} (h : l.length ≤ 512) : (padded l).length = 512 := by simp [padded]; omega

set_option maxHeartbeats 400000 in
set_option maxRecDepth 100000 in
theorem newBlock_any {b : Value} {l : Bytes} (w : World) (hb : Bs w b l) (hl : l.length ≤ 512) :
    Calls Try.prog 39 #[b] w (Makes w (padded l)) := by
  obtain ⟨w1, hmk, o1, g1⟩ := run_zeros_bs bt w w.heap.size .i64 .i64 512 (by decide) (Nat.le_refl _)
  rw [show ((512 : Nat) : Int) = 512 from rfl] at hmk
  have hbl : (bvs noughts).length = 512 := by rw [bvs_length]; exact List.length_replicate
  have b1 : Below w.heap.size w w1 := (Below.refl _ _).grown g1 (Nat.le_refl _) (fun _ h => by cases h)
  obtain ⟨c1, _, _⟩ := o1.cel
  have hb1 := hb.below b1
  obtain ⟨a, cap, rfl, h2, h3, h4, h5⟩ := hb1
  have hz : List.replicate 512 (0 : UInt8) = noughts := rfl
  rw [hz] at c1
  have hsp : splice (bvs noughts) 0 (bvs l) = bvs (padded l) := pad_gen 512 l
  have H := Lib.hid (And.intro hsp hl)
  have HB := Lib.hid hbl
  clear hsp o1 hb hz hl hbl
  go_enter Try.func39, Try.ntmps39
  go_wp2_with (refine wpList_copy_splice rfl (.tmp 5) (.tmp 6) 33 33 rfl 5 Try.underlying33 (by kernel_rfl) (some ⟨w.heap.size, 0, none⟩) a 512 512 l.length cap rfl rfl w.heap.size 0 (bvs noughts) 5 c1 (bvs l) ?c1 ?c2 ?c3 bvs_one w.heap.size w1 (Below.refl _ _) (Nat.le_refl _) ?_)
  case c1 => rw [bvs_length]; have := H.out.2; exact (Nat.min_eq_left this).symm
  case c2 =>
    intro hp
    rcases a with _ | a
    · have := h4 rfl
      rw [bvs_length] at hp; omega
    · exact ⟨a, rfl, fun j v hj => h5 a rfl j v hj⟩
  case c3 => rw [HB.out, bvs_length]; have := H.out.2; omega
  intro w2 hg2 hb2
  go_wp2
  go_ret
  refine ⟨w.heap.size, rfl, ?_, Nat.le_refl _, b1.trans (hb2.mono (Nat.le_refl _))⟩
  have := hg2.out
  rw [H.out.1] at this
  exact this
end Go.Proofs.Ytcpapdpnnlnemaa
