/- The walk of OctetStrings: it returns true and writes nothing that was there; no condition. -/
import Derived.Test.YtnfmbggffmloeaaOctNumbers
namespace Go.Proofs.Ytnfmbggffmloeaa
open Go.RowKit

/-- What PutBytes answers, in one form for both of its ways. -/
def pbL (l m : List UInt8) : List UInt8 := if m.length ≤ 65535 then putsL l m else []
def pbE (m : List UInt8) : Int := if m.length ≤ 65535 then 0 else 6
def PutsB (w : World) (l m : List UInt8) (e : Ending) (w' : World) : Prop :=
  ∃ v, e = .returned (.tuple #[v, .int .i64 (pbE m)]) ∧ Ow w' w.heap.size 5 v (pbL l m) ∧ Below w.heap.size w w'

theorem putsB_of {w : World} {l m : List UInt8} {f : FuncId} {b s : Value}
    (h1 : m.length ≤ 65535 → Calls Try.prog f #[b, s] w (Gives2 w (putsL l m)))
    (h2 : 65535 < m.length → Calls Try.prog f #[b, s] w fun e w' => e = .returned (.tuple #[.slice none 0 0, .int .i64 6]) ∧ w = w') : Calls Try.prog f #[b, s] w (PutsB w l m) := by
  by_cases h : m.length ≤ 65535
  · refine (h1 h).mono fun e w' ⟨v, he, ho, hb⟩ => ⟨v, ?_, ?_, hb⟩
    · rw [he, pbE, if_pos h]
    · rw [pbL, if_pos h]; exact ho
  · refine (h2 (by omega)).mono fun e w' ⟨he, hw⟩ => ⟨.slice none 0 0, ?_, ?_, ?_⟩
    · rw [he, pbE, if_neg h]
    · rw [pbL, if_neg h]; exact World.ownsRow_nil _ _ _ _
    · rw [← hw]; exact Below.refl _ _

theorem pbL_length (l m : List UInt8) (hl : l.length ≤ 16384) (_hm : m.length ≤ 131072) : (pbL l m).length ≤ 1073741824 := by
  unfold pbL
  split
  · simp [putsL, beL_length]; omega
  · simp

theorem xor_val (x : UInt8) (c : Nat) (hc : c < 256) : Value.int .u8 (bits .xor .u8 (x.toNat : Int) (c : Int)) = bv (x ^^^ UInt8.ofNat c) := by
  unfold bv
  rw [u8_xor_nat x.toNat c x.toNat_lt hc, UInt8.toNat_xor, UInt8.toNat_ofNat']
  simp only [Nat.reducePow]
  rw [Nat.mod_eq_of_lt hc]

/-- A byte stored into a row of the call's own. -/
theorem Ow.stored {w : World} {base : Nat} {e : TypeId} {g cap : Nat} {l : List UInt8} (h : Ow w base e (.slice (some ⟨g, 0, none⟩) l.length cap) l) (r : Nat) (y : UInt8) :
    Ow (w.setCell ⟨g, r, none⟩ (bv y)) base e (.slice (some ⟨g, 0, none⟩) l.length cap) (l.set r y) ∧ w.grownBy (w.setCell ⟨g, r, none⟩ (bv y)) (some g) := by
  have := World.ownsRow.stored h r (bv y)
  refine ⟨?_, this.2⟩
  have h1 := this.1
  unfold Ow
  rw [List.length_set]
  unfold bvs at h1 ⊢
  rw [List.map_set]
  exact h1

/-- A row of bytes that is not empty, opened. -/
theorem Ow.open {w : World} {base : Nat} {e : TypeId} {v : Value} {l : List UInt8} (h : Ow w base e v l) (hne : 0 < l.length) : ∃ g cap, v = .slice (some ⟨g, 0, none⟩) l.length cap ∧ base ≤ g ∧ g < w.heap.size := by
  rcases h.2 with ⟨_, h0⟩ | ⟨g, cap, cur, hv, hb, hg, _⟩
  · omega
  · exact ⟨g, cap, hv, hb, (Array.getElem?_eq_some_iff.1 hg).1⟩

theorem Ow.cell {w : World} {base : Nat} {e : TypeId} {g cap : Nat} {l : List UInt8} (h : Ow w base e (.slice (some ⟨g, 0, none⟩) l.length cap) l) {r : Nat} {x : UInt8} (hx : l[r]? = some x) :
    w.cell? ⟨g, r, none⟩ = some (.int .u8 (x.toNat : Int)) ∧ w.frozen? ⟨g, r, none⟩ = false := by
  have hr := (List.getElem?_eq_some_iff.1 hx).1
  refine ⟨?_, World.ownsRow.frozenAt h r⟩
  rw [World.ownsRow.cellAt h r (by omega)]
  simp [bvs, hx, bv]

set_option maxHeartbeats 400000 in
theorem octetStrings_v0 {b s : Value} {l : List UInt8} (p : Int) (w : World) (hb : Bs w b l) (nv : 16384 < l.length) :
    Calls Try.prog 4 #[b, s, .int .i64 p] w (Yes w) := by
  go_enter Try.func4, Try.ntmps4
  go_wp2_with fail
  refine (vast_yes _ hb nv).mono ?_
  rintro e w1 ⟨rfl, rfl⟩
  go_wp2_with fail
  refine (works_any _).mono ?_
  rintro e w3 ⟨rfl, b3⟩
  go_wp2
  go_ret
  exact ⟨rfl, b3⟩

set_option maxHeartbeats 400000 in
theorem octetStrings_v1 {b s : Value} {l m : List UInt8} (p : Int) (w : World) (hb : Bs w b l) (hs : Bs w s m) (n1 : l.length ≤ 16384) (nv : 131072 < m.length) :
    Calls Try.prog 4 #[b, s, .int .i64 p] w (Yes w) := by
  obtain ⟨a1, c1, rfl, hs⟩ := hs.shape
  go_enter Try.func4, Try.ntmps4
  go_wp2_with fail
  refine (vast_no _ hb n1).mono ?_
  rintro e w1 ⟨rfl, rfl⟩
  go_wp2_with fail
  refine (works_any _).mono ?_
  rintro e w3 ⟨rfl, b3⟩
  go_wp2
  go_ret
  exact ⟨rfl, b3⟩

set_option maxHeartbeats 1000000 in
theorem octetStrings_go {b s : Value} {l m : List UInt8} (p : Int) (w : World) (hb : Bs w b l) (hs : Bs w s m) (n1 : l.length ≤ 16384) (n2 : m.length ≤ 131072) :
    Calls Try.prog 4 #[b, s, .int .i64 p] w (Yes w) := by
  obtain ⟨a0, c0, rfl, hb⟩ := hb.shape
  obtain ⟨a1, c1, rfl, hs⟩ := hs.shape
  obtain ⟨w1, hr, ho, hg⟩ := run_make_bs bt w w.heap.size .i64 .i64 (l.length + 20) (by omega) (Nat.le_refl _)
  have b1 : Below w.heap.size w w1 := (Below.refl _ _).grown hg (Nat.le_refl _) (fun _ h => by cases h)
  have hb1 := hb.below b1
  have hroom : ([] : List UInt8).length + l.length ≤ l.length + 20 := by simp
  have hput := pbL_length l m n1 n2
  simp only [Int.natCast_add, Int.cast_ofNat_Int] at hr
  go_enter Try.func4, Try.ntmps4
  go_wp2_with fail
  refine (vast_no _ hb n1).mono ?_
  rintro e w2 ⟨rfl, rfl⟩
  go_wp2_with (first | (at_builtin; refine wpList_append_fits_bs bt rfl (.tmp 34) (.tmp 35) rfl w.heap.size rfl rfl rfl ho hb1 hroom ?_; intro w2 o2 g2))
  simp only [List.length_nil, Nat.zero_add, List.nil_append] at o2
  have b02 : Below w.heap.size w w2 := b1.grown g2 b1.size fun j hj => by cases hj; exact Nat.le_refl _
  have hlt2 := (World.ownsRow.lt o2 w.heap.size rfl).2
  refine (copied_any _ (hs.below b02) (by omega)).mono ?_
  rintro e w3 ⟨v3, rfl, o3, b3⟩
  have b03 := b02.trans (b3.mono b02.size)
  have hlt3 : w.heap.size < w3.heap.size := by have := b3.size; omega
  have H3b := Lib.hid (fun k (hk : v3.ownBlock = some k) => (World.ownsRow.lt o3 k hk).2)
  have o23 := o2.below b3
  go_wp2_with fail
  refine (putsB_of (fun h => putBytes_any _ o23.bs o3.bs (by omega) h) (fun h => putBytes_many _ o23.bs o3.bs h)).mono ?_
  rintro e w4 ⟨v4, rfl, o4, b4⟩
  have b04 := b03.trans (b4.mono b03.size)
  have o24 := o23.below b4
  have o34 := o3.below b4
  go_wp2_with fail
  go_loopw [7, 11] (fun q i wr => ∃ x : List UInt8, x.length ≤ 20 ∧ i = .int .i64 (x.length : Nat) ∧ q = .slice (some ⟨w.heap.size, 0, none⟩) (l.length + x.length) (l.length + 20) ∧ Ow wr w.heap.size 5 q (l ++ x) ∧ Ow wr w2.heap.size 5 v3 m ∧ Ow wr w3.heap.size 5 v4 (pbL l m) ∧ Below w.heap.size w wr) (fun _ i _ => 20 - (intOf i).toNat)
  case atStart => exact ⟨[], by simp, rfl, rfl, by simpa using o24, o34, o4, b04⟩
  case round =>
    obtain ⟨x, hx, rfl, rfl, hor, h3r, h4r, hbr⟩ := hrel
    have hlen : (l ++ x).length = l.length + x.length := List.length_append
    by_cases hlt : x.length < 20
    · have hroom2 : (l ++ x).length + [(238 : UInt8)].length ≤ l.length + 20 := by rw [hlen]; simp; omega
      have hor' : Ow wr w.heap.size 5 (.slice (some ⟨w.heap.size, 0, none⟩) (l ++ x).length (l.length + 20)) (l ++ x) := by rw [hlen]; exact hor
      have Hlen := Lib.hid hlen
      clear hlen hor
      go_wp2_with (at_builtin; refine wpList_append_fits_bs bt rfl _ _ rfl w.heap.size rfl Hlen.out.symm rfl (hor'.below ((Below.refl _ _).alloc (Nat.le_refl _) _)) (Bs.new1 _ _ _ 238 rfl) hroom2 ?_; intro w5 o5 g5)
      go_roundw
      case rel =>
        refine ⟨x ++ [238], by simp; omega, by simp, by simp [Nat.add_assoc], ?_, ?_, ?_, ?_⟩
        · rw [Hlen.out] at o5
          rw [← List.append_assoc]
          exact o5
        · exact (h3r.below ((Below.refl _ _).alloc (Nat.le_refl _) _)).apart g5 hlt2
        · exact (h4r.below ((Below.refl _ _).alloc (Nat.le_refl _) _)).apart g5 hlt3
        · exact (hbr.alloc (by have := hbr.size; omega) _).grown g5 (by have := hbr.size; simp; omega) fun j hj => by cases hj; exact Nat.le_refl _
      case measure => simp [intOf]; omega
    · have hx20 : x.length = 20 := by omega
      rw [hx20] at hor ⊢
      clear hlen hlt hx20
      obtain ⟨a3, c3, hv3, _⟩ := h3r.bs.shape
      subst hv3
      go_wp2_with fail
      go_loopw [12] (fun i wq => ∃ r : Nat, ∃ lm : List UInt8, r ≤ m.length ∧ i = .int .i64 r ∧ lm.length = m.length ∧ Ow wq w2.heap.size 5 (.slice a3 m.length c3) lm ∧ Ow wq w.heap.size 5 (.slice (some ⟨w.heap.size, 0, none⟩) (l.length + 20) (l.length + 20)) (l ++ x) ∧ Ow wq w3.heap.size 5 v4 (pbL l m) ∧ Below w.heap.size w wq) (fun i _ => m.length - (intOf i).toNat)
      case atStart => exact ⟨0, m, Nat.zero_le _, rfl, rfl, h3r, hor, h4r, hbr⟩
      case round =>
        obtain ⟨r, lm, hr1, rfl, hlm, h3q, hoq, h4q, hbq⟩ := hrel
        by_cases hlt : r < m.length
        · obtain ⟨g3, q3, e3, hg3, hg3'⟩ := h3q.open (by omega)
          simp only [Value.slice.injEq] at e3
          obtain ⟨rfl, _, rfl⟩ := e3
          have h3q' : Ow wr w2.heap.size 5 (.slice (some ⟨g3, 0, none⟩) lm.length c3) lm := by rw [hlm]; exact h3q
          obtain ⟨y, hy⟩ : ∃ y, lm[r]? = some y := ⟨_, List.getElem?_eq_getElem (by omega)⟩
          obtain ⟨hcell, hfroz⟩ := h3q'.cell hy
          have Hlm := Lib.hid hlm
          clear hlm hy
          go_wp2
          go_roundw
          case rel =>
            have hx := xor_val y 49 (by omega)
            rw [show ((49 : Nat) : Int) = 49 from rfl] at hx
            rw [hx]
            have hst := h3q'.stored r (y ^^^ UInt8.ofNat 49)
            refine ⟨r + 1, lm.set r (y ^^^ UInt8.ofNat 49), by omega, by go_num, by rw [List.length_set, Hlm.out], ?_, hoq.grown hst.2 (.inr fun e => ?_), h4q.apart hst.2 ?_, hbq.grown hst.2 (by have := hbq.size; omega) fun j hj => ?_⟩
            · have h := hst.1
              rw [Hlm.out] at h
              exact h
            · have e' : w.heap.size = g3 := Option.some.inj e
              omega
            · exact H3b.out g3 rfl
            · have e' : g3 = j := Option.some.inj hj
              omega
          case measure => simp [intOf]; omega
        · go_wp2_with fail
          refine (putsB_of (fun h => refPutBytes_any _ (hb.below hbq) (hs.below hbq) (by omega) h) (fun h => refPutBytes_many _ (hb.below hbq) (hs.below hbq) h)).mono ?_
          rintro e w5 ⟨v5, rfl, o5, b5⟩
          have b05 := hbq.trans (b5.mono hbq.size)
          obtain ⟨v9, hsl, hb9⟩ := run_slice_to_bs bt w5 (hoq.below b5).bs .i64 l.length (by simp)
          rw [List.take_left] at hb9
          go_wp2_with fail
          refine (same_true _ (h4q.bs.below b5) o5.bs hput).mono ?_
          rintro e w6 ⟨rfl, b6⟩
          have b06 := b05.trans (b6.mono b05.size)
          go_wp2_with fail
          refine (same_true _ (hb9.below b6) (hb.below b06) (by omega)).mono ?_
          rintro e w7 ⟨rfl, b7⟩
          have b07 := b06.trans (b7.mono b06.size)
          go_wp2_with fail
          refine (copied_any _ (hb.below b07) (by omega)).mono ?_
          rintro e w8 ⟨v8, rfl, o8, b8⟩
          have b08 := b07.trans (b8.mono b07.size)
          have hlt8 : w.heap.size ≤ w7.heap.size := b07.size
          have H8b := Lib.hid (fun k (hk : v8.ownBlock = some k) => (World.ownsRow.lt o8 k hk).2)
          go_wp2_with fail
          refine (takeBytes_any p _ o8.bs (by omega)).mono ?_
          rintro e w9 ⟨v10, rfl, o10, b9⟩
          have b09 := b08.trans (b9.mono b08.size)
          have o89 := o8.below b9
          obtain ⟨a8, c8, hv8, _⟩ := o8.bs.shape
          subst hv8
          go_wp2_with fail
          go_loopw [19] (fun i wq => ∃ r : Nat, ∃ lm : List UInt8, r ≤ l.length ∧ i = .int .i64 r ∧ lm.length = l.length ∧ Ow wq w7.heap.size 5 (.slice a8 l.length c8) lm ∧ Ow wq w8.heap.size 5 v10 (tbL l p) ∧ Below w.heap.size w wq) (fun i _ => l.length - (intOf i).toNat)
          case atStart => exact ⟨0, l, Nat.zero_le _, rfl, rfl, o89, o10, b09⟩
          case round =>
            obtain ⟨r, lm, hr1, rfl, hlm, h8q, h10q, hbq⟩ := hrel
            by_cases hlt : r < l.length
            · obtain ⟨g8, q8, e8, hg8, hg8'⟩ := h8q.open (by omega)
              simp only [Value.slice.injEq] at e8
              obtain ⟨rfl, _, rfl⟩ := e8
              have h8q' : Ow wr w7.heap.size 5 (.slice (some ⟨g8, 0, none⟩) lm.length c8) lm := by rw [hlm]; exact h8q
              obtain ⟨y, hy⟩ : ∃ y, lm[r]? = some y := ⟨_, List.getElem?_eq_getElem (by omega)⟩
              obtain ⟨hcell, hfroz⟩ := h8q'.cell hy
              have Hlm := Lib.hid hlm
              clear hlm hy
              go_wp2
              go_roundw
              case rel =>
                have hx := xor_val y 85 (by omega)
                rw [show ((85 : Nat) : Int) = 85 from rfl] at hx
                rw [hx]
                have hst := h8q'.stored r (y ^^^ UInt8.ofNat 85)
                refine ⟨r + 1, lm.set r (y ^^^ UInt8.ofNat 85), by omega, by go_num, by rw [List.length_set, Hlm.out], ?_, h10q.apart hst.2 ?_, hbq.grown hst.2 (by have := hbq.size; omega) fun j hj => ?_⟩
                · have h := hst.1
                  rw [Hlm.out] at h
                  exact h
                · exact H8b.out g8 rfl
                · have e' : g8 = j := Option.some.inj hj
                  omega
              case measure => simp [intOf]; omega
            · go_wp2_with fail
              refine (refTakeBytes_any p _ (hb.below hbq) (by omega)).mono ?_
              rintro e w11 ⟨v11, rfl, o11, b11⟩
              have b011 := hbq.trans (b11.mono hbq.size)
              have hshort : (tbL l p).length ≤ 1073741824 := by
                unfold tbL
                split
                · have h := List.length_take_le (tbN l p) (l.drop (p.toNat + 2))
                  have := take_two_lt l p
                  omega
                · simp
              go_wp2_with fail
              refine (same_true _ (h10q.bs.below b11) o11.bs hshort).mono ?_
              rintro e w12 ⟨rfl, b12⟩
              have b012 := b011.trans (b12.mono b011.size)
              go_wp2_with fail
              refine (works_any _).mono ?_
              rintro e w13 ⟨rfl, b13⟩
              go_wp2
              go_ret
              exact ⟨rfl, b012.trans (b13.mono b012.size)⟩

theorem octetStrings_any {b s : Value} {l m : List UInt8} (p : Int) (w : World) (hb : Bs w b l) (hs : Bs w s m) (_hp : (Lit.int .i64 p).wf = true) :
    Calls Try.prog 4 #[b, s, .int .i64 p] w (Yes w) := by
  rcases Nat.lt_or_ge 16384 l.length with q1 | q1
  · exact octetStrings_v0 p w hb q1
  rcases Nat.lt_or_ge 131072 m.length with q2 | q2
  · exact octetStrings_v1 p w hb hs q1 q2
  · exact octetStrings_go p w hb hs q1 q2
end Go.Proofs.Ytnfmbggffmloeaa
