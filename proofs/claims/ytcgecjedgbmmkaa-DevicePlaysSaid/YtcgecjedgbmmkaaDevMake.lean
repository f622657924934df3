/- The functions that make blocks of 512 bytes: each answers a new block of its own and writes nothing that was there; condition: what is copied has at most 512 bytes. -/
import Derived.Test.YtcgecjedgbmmkaaFoot
import Derived.Laws.CopyOwn
namespace Go.Proofs.Ytcgecjedgbmmkaa
open Go.RowKit

theorem Ow.cel {w : World} {base g n : Nat} {e : TypeId} {l : List UInt8} (h : Ow w base e (.slice (some ⟨g, 0, none⟩) n n) l) : Cel w g (bvs l) e ∧ base ≤ g ∧ l.length = n := by
  rcases h.2 with ⟨h2, _⟩ | ⟨g', cap', cur, hv, hbg, hg, hn, hm, hs, ht⟩
  · cases h2
  · simp only [Value.slice.injEq, Option.some.injEq, Addr.mk.injEq] at hv
    obtain ⟨⟨rfl, _⟩, hln, rfl⟩ := hv
    have : cur.toList = bvs l := by rw [← ht, List.take_of_length_le (by simp [hs, ← hln])]
    refine ⟨?_, hbg, hln.symm⟩
    unfold Cel
    rw [← this]
    simpa using hg

/-- A block is made: v reads as l, and nothing that was there has turned. -/
def Makes (w : World) (l : Bytes) (e : Ending) (w' : World) : Prop := ∃ g, e = .returned (.slice (some ⟨g, 0, none⟩) 512 512) ∧ Cel w' g (bvs l) 5 ∧ w.heap.size ≤ g ∧ Below w.heap.size w w'

theorem Makes.blk {w w' : World} {l : Bytes} {e : Ending} (h : Makes w l e w') (hl : l.length = 512) : ∃ v, e = .returned v ∧ Blk w' v l ∧ (∀ g, v.ownBlock = some g → w.heap.size ≤ g) ∧ Below w.heap.size w w' := by
  obtain ⟨g, rfl, hc, hg, hb⟩ := h
  exact ⟨_, rfl, ⟨g, rfl, hc, hl⟩, (fun g' e => by cases e; exact hg), hb⟩

/-- Bytes with noughts behind them, 512 in all. -/
def padded (l : Bytes) : Bytes := l ++ List.replicate (512 - l.length) 0
theorem padded_full {l : Bytes} (h : l.length = 512) : padded l = l := by simp [padded, h]
theorem pad_gen (n : Nat) (l : Bytes) : splice (bvs (List.replicate n 0)) 0 (bvs l) = bvs (l ++ List.replicate (n - l.length) 0) := by
  simp [splice, bvs, List.drop_replicate]
theorem padded_nil : padded [] = noughts := rfl
theorem padded_length {l : Bytes} (h : l.length ≤ 512) : (padded l).length = 512 := by simp [padded]; omega

set_option maxHeartbeats 400000 in
set_option maxRecDepth 100000 in
theorem newBlock_any {b : Value} {l : Bytes} (w : World) (hb : Bs w b l) (hl : l.length ≤ 512) :
    Calls Try.prog 32 #[b] w (Makes w (padded l)) := by
  obtain ⟨w1, hmk, o1, g1⟩ := run_zeros_bs bt w w.heap.size .i64 .i64 512 (by decide) (Nat.le_refl _)
  rw [show ((512 : Nat) : Int) = 512 from rfl] at hmk
  have hbl : (bvs noughts).length = 512 := by rw [bvs_length]; exact List.length_replicate
  have b1 : Below w.heap.size w w1 := (Below.refl _ _).grown g1 (Nat.le_refl _) (fun _ h => by cases h)
  obtain ⟨c1, _, _⟩ := o1.cel
  have hb1 := hb.below b1
  obtain ⟨a, cap, rfl, h2, h3, h4, h5⟩ := hb1
  have hz : List.replicate 512 (0 : UInt8) = noughts := rfl
  rw [hz] at c1
  have hsp : splice (bvs noughts) 0 (bvs l) = bvs (padded l) := pad_gen 512 l
  have H := Lib.hid (And.intro hsp hl)
  have HB := Lib.hid hbl
  clear hsp o1 hb hz hl hbl
  go_enter Try.func32, Try.ntmps32
  go_wp2_with (refine wpList_copy_splice rfl (.tmp 5) (.tmp 6) 41 41 rfl 5 Try.underlying41 (by kernel_rfl) (some ⟨w.heap.size, 0, none⟩) a 512 512 l.length cap rfl rfl w.heap.size 0 (bvs noughts) 5 c1 (bvs l) ?c1 ?c2 ?c3 bvs_one w.heap.size w1 (Below.refl _ _) (Nat.le_refl _) ?_)
  case c1 => rw [bvs_length]; have := H.out.2; exact (Nat.min_eq_left this).symm
  case c2 =>
    intro hp
    rcases a with _ | a
    · have := h4 rfl
      rw [bvs_length] at hp; omega
    · exact ⟨a, rfl, fun j v hj => h5 a rfl j v hj⟩
  case c3 => rw [HB.out, bvs_length]; have := H.out.2; omega
  intro w2 hg2 hb2
  go_wp2
  go_ret
  refine ⟨w.heap.size, rfl, ?_, Nat.le_refl _, b1.trans (hb2.mono (Nat.le_refl _))⟩
  have := hg2.out
  rw [H.out.1] at this
  exact this

/-- A block that is full of a letter, with another one at its end. -/
def filled (c d : UInt8) : Bytes := List.replicate 511 c ++ [d]
theorem filled_length (c d : UInt8) : (filled c d).length = 512 := by
  unfold filled; rw [List.length_append, List.length_replicate]; rfl

def fillTo (c : UInt8) (r : Nat) : Bytes := List.replicate r c ++ List.replicate (512 - r) 0
theorem fillTo_length (c : UInt8) (r : Nat) (h : r ≤ 512) : (fillTo c r).length = 512 := by
  unfold fillTo; rw [List.length_append, List.length_replicate, List.length_replicate]; omega
theorem fillTo_zero (c : UInt8) : fillTo c 0 = noughts := rfl
theorem fill_set (n r : Nat) (c : UInt8) (h : r < n) : (List.replicate r c ++ List.replicate (n - r) 0).set r c = List.replicate (r + 1) c ++ List.replicate (n - (r + 1)) 0 := by
  obtain ⟨m, rfl⟩ : ∃ m, n = r + 1 + m := ⟨n - (r + 1), by omega⟩
  have e1 : r + 1 + m - r = m + 1 := by omega
  have e2 : r + 1 + m - (r + 1) = m := by omega
  rw [e1, e2, List.set_append_right _ _ (by simp)]
  simp only [List.length_replicate, Nat.sub_self, List.replicate_succ (n := m), List.set_cons_zero]
  rw [List.replicate_succ', List.append_assoc]
  rfl
theorem fillTo_set (c : UInt8) (r : Nat) (h : r < 512) : (fillTo c r).set r c = fillTo c (r + 1) := fill_set 512 r c h
theorem fillTo_last (c d : UInt8) : (fillTo c 512).set 511 d = filled c d := by
  have h : ∀ n : Nat, (List.replicate (n + 1) c ++ List.replicate 0 (0 : UInt8)).set n d = List.replicate n c ++ [d] := fun n => by
    rw [List.replicate_zero, List.append_nil, List.replicate_succ', List.set_append_right _ _ (by simp)]
    simp
  exact h 511

set_option maxRecDepth 100000 in
theorem filled_any (c d : UInt8) (w : World) :
    Calls Try.prog 22 #[.int .u8 (c.toNat : Int), .int .u8 (d.toNat : Int)] w (Makes w (filled c d)) := by
  obtain ⟨w1, hmk, o1, g1⟩ := run_zeros_bs bt w w.heap.size .i64 .i64 512 (by decide) (Nat.le_refl _)
  rw [show ((512 : Nat) : Int) = 512 from rfl] at hmk
  have b1 : Below w.heap.size w w1 := (Below.refl _ _).grown g1 (Nat.le_refl _) (fun _ h => by cases h)
  obtain ⟨c1, _, _⟩ := o1.cel
  have hz : List.replicate 512 (0 : UInt8) = fillTo c 0 := rfl
  rw [hz] at c1
  have hcb : bv c = .int .u8 (c.toNat : Int) := rfl
  have hdb : bv d = .int .u8 (d.toNat : Int) := rfl
  have C1 := Lib.hid c1
  clear hz o1 g1 c1
  generalize c.toNat = cn at *
  generalize d.toNat = dn at *
  have HC := Lib.hid (And.intro hcb hdb)
  clear hcb hdb
  go_enter Try.func22, Try.ntmps22
  go_wp2
  go_loopw [6] (fun i wr => ∃ r : Nat, r ≤ 512 ∧ i = .int .i64 r ∧ Cel wr w.heap.size (bvs (fillTo c r)) 5 ∧ Below w.heap.size w wr) (fun i _ => 512 - (intOf i).toNat)
  case atStart => exact ⟨0, by omega, rfl, C1.out, b1⟩
  case round =>
    obtain ⟨r, hr, rfl, hc, hb⟩ := hrel
    by_cases hlt : r < 512
    · have hlen : (bvs (fillTo c r)).length = 512 := by rw [bvs_length, fillTo_length c r hr]
      obtain ⟨old, hold⟩ : ∃ u, (bvs (fillTo c r))[r]? = some u := ⟨_, List.getElem?_eq_getElem (by omega)⟩
      have hcell : wr.cell? ⟨w.heap.size, r, none⟩ = some old := by rw [hc.cell, hold]
      have hfr := hc.frozen r
      have H := Lib.hid hc
      clear hc hlen hold
      go_wp2
      go_roundw
      case rel =>
        refine ⟨r + 1, by omega, by go_num, ?_, hb.setCell (Nat.le_refl _) _⟩
        have := H.out.set r (bv c)
        have e : (bvs (fillTo c r)).set r (bv c) = bvs (fillTo c (r + 1)) := by rw [← fillTo_set c r hlt]; simp [bvs, List.map_set]
        rw [e, HC.out.1] at this
        exact this
      case measure => simp [intOf]; omega
    · obtain rfl : r = 512 := by omega
      have hlen : (bvs (fillTo c 512)).length = 512 := by rw [bvs_length, fillTo_length c 512 hr]
      obtain ⟨old, hold⟩ : ∃ u, (bvs (fillTo c 512))[511]? = some u := ⟨_, List.getElem?_eq_getElem (by omega)⟩
      have hcell : wr.cell? ⟨w.heap.size, 511, none⟩ = some old := by rw [hc.cell, hold]
      have hfr := hc.frozen 511
      have H := Lib.hid hc
      clear hc hlen hold
      go_wp2
      go_ret
      refine ⟨w.heap.size, rfl, ?_, Nat.le_refl _, hb.setCell (Nat.le_refl _) _⟩
      have := H.out.set 511 (bv d)
      have e : (bvs (fillTo c 512)).set 511 (bv d) = bvs (filled c d) := by rw [← fillTo_last c d]; simp only [bvs, List.map_set]
      rw [e, HC.out.2] at this
      exact this

/-- A block that is full of a letter. -/
def fullOf (c : UInt8) : Bytes := filled c c

theorem full_any (c : UInt8) (w : World) : Calls Try.prog 15 #[.int .u8 (c.toNat : Int)] w (Makes w (fullOf c)) := by
  go_enter Try.func15, Try.ntmps15
  go_wp2_with fail
  refine (filled_any c c _).mono ?_
  rintro e w1 ⟨g, rfl, h⟩
  go_wp2
  go_ret
  exact ⟨g, rfl, h⟩
end Go.Proofs.Ytcgecjedgbmmkaa
