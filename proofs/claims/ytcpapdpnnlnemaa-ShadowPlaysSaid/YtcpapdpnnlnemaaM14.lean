/- The document's answers for layer 8: Root, Of: each as the plain words have it; condition: a body of 2^40 bytes at most. · The document's Save and Load of layer 8: what they answer and leave, whatever stands on the device; condition: the document's device lies in memory, with fewer than a million things loose in each block; a body of 2^40 bytes at most. · The document's Load of layer 8: what it answers of a device of whatever content; condition: the document's device lies in memory, each block has 512 bytes. · The helper raw of the statements of layer 8: the block of a step; condition: the step lies in memory, its body has 20,000 bytes at most. · A device and the document's one that a statement has made, with what must last beside them: each call of both, as it answers; condition: fewer than a million things are loose in each block. -/
import Derived.Test.YtcpapdpnnlnemaaM04
import Derived.Test.YtcpapdpnnlnemaaM11
import Derived.Test.YtcpapdpnnlnemaaM13
import Derived.BigQuiet
import Derived.Test.YtcpapdpnnlnemaaM15
import Derived.StillTailTactics
namespace Go.Proofs.Ytcpapdpnnlnemaa
open Go.RowKit Go.Maps

set_option maxRecDepth 100000 in
set_option maxHeartbeats 1000000 in
theorem refRoot_any {b : Value} {l : Bytes} (g : Nat) (w : World) (hb : Bs w b l) (hl : l.length ≤ 1099511627776) : Calls Try.prog 32 #[.int .u64 (g : Int), b] w (Gives w (rootL g l)) := by
  obtain ⟨a, c, rfl, hb⟩ := hb.shape
  have H := Lib.hid hb
  clear hb
  go_enter Try.func32, Try.ntmps32
  go_wp2
  go_loopw [5, 6] (fun s i wr => ∃ q : Nat, q ≤ 8 ∧ i = .int .i64 ((q : Int) - 1) ∧ Ow wr w.heap.size 5 s ((beL g 8).take (8 - q)) ∧ Below w.heap.size w wr) (fun _ i _ => (intOf i + 1).toNat)
  case atStart => exact ⟨8, by omega, rfl, World.ownsRow_nil _ _ _ _, Below.refl _ _⟩
  case round =>
    obtain ⟨q, hq, rfl, hor, hbr⟩ := hrel
    by_cases h0 : 0 < q
    · obtain ⟨j, rfl⟩ : ∃ j, q = j + 1 := ⟨q - 1, by omega⟩
      have hj : ((j + 1 : Nat) : Int) - 1 = (j : Int) := by omega
      rw [hj]
      have hj7 : (j : Int) ≤ 7 := by omega
      have hj0 : (0 : Int) ≤ (j : Int) := by omega
      have hs : ((beL g 8).take (8 - (j + 1))).length + [UInt8.ofNat (g / 2 ^ (8 * j))].length ≤ 140737488355328 := by simp; omega
      have hz : w.heap.size ≤ (wr.alloc (.cells #[Value.int .u8 ((g : Int) / 2 ^ (8 * j) % 256)] 5)).heap.size := by have := hbr.size; simp; omega
      have hstep := beL_take_succ g 8 (7 - j) (by omega)
      rw [show 7 - j + 1 = 8 - j by omega, show 8 - 1 - (7 - j) = j by omega, show 7 - j = 8 - (j + 1) by omega] at hstep
      have HS := Lib.hid (And.intro hstep (And.intro hor (And.intro hbr hz)))
      have hor' := hor.below ((Below.refl _ _).alloc (Nat.le_refl _) (.cells #[Value.int .u8 ((g : Int) / 2 ^ (8 * j) % 256)] 5))
      have hbv := byte_val g (8 * j)
      have hn1 := Bs.new1 wr 5 _ _ hbv
      clear hj hstep hbr hor h0 hbv
      go_wp2_with (at_builtin; refine wpList_append_bs bt rfl _ _ rfl w.heap.size rfl rfl hor' hn1 hs hz ?_; intro v2 w2 o2 g2)
      have H2 := Lib.hid (And.intro o2 g2)
      clear o2 g2 hs hz hor' hn1
      go_wp2
      go_roundw
      case rel =>
        refine ⟨j, by omega, rfl, ?_, (HS.out.2.2.1.alloc (by have := HS.out.2.2.1.size; omega) _).grown H2.out.2 HS.out.2.2.2 (fun k hk => (World.ownsRow.lt HS.out.2.1 k hk).1)⟩
        rw [HS.out.1]
        exact H2.out.1
      case measure => simp [intOf]
    · obtain rfl : q = 0 := by omega
      rw [Nat.sub_zero] at hor
      rw [beL_take_all] at hor
      have hb1 := H.out.below hbr
      have hs : (beL g 8).length + l.length ≤ 140737488355328 := by rw [beL_length]; omega
      have hz := hbr.size
      have HB := Lib.hid (And.intro hbr hor)
      clear hbr
      go_wp2_with (at_builtin; refine wpList_append_bs bt rfl _ _ rfl w.heap.size rfl rfl hor hb1 hs hz ?_; intro v2 w2 o2 g2)
      have b2 := below_own HB.out.1 HB.out.2 g2
      have H2 := Lib.hid (And.intro o2 b2)
      clear hor hb1 hs hz o2 g2 b2 HB
      go_wp2
      go_ret
      exact ⟨_, rfl, H2.out.1, H2.out.2⟩

/-- What Of answers. -/
def Ofs (w : World) (r : Nat × Bytes) (e : Ending) (w' : World) : Prop := ∃ v, e = .returned (.tuple #[.int .u64 (r.1 : Int), v]) ∧ New w w' v r.2 ∧ Below w.heap.size w w'
theorem ofs_no {w w' : World} {k : Nat} {b : Bytes} (h : ¬ isRoot k b) (hb : Below w.heap.size w w') : Ofs w (rootOf k b) (.returned (.tuple #[.int .u64 0, .slice none 0 0])) w' := by
  rw [rootOf_no h]
  exact ⟨_, rfl, new_nil _ _, hb⟩

set_option maxRecDepth 100000 in
set_option maxHeartbeats 2000000 in
theorem refOf_any {b : Value} {l : Bytes} (k : Nat) (w : World) (hb : Bs w b l) : Calls Try.prog 44 #[.int .i64 (k : Int), b] w (Ofs w (rootOf k l)) := by
  have hz := openV_len l
  have hO := refOpen_any w hb
  have hno := fun (w' : World) (h : ¬ isRoot k l) => ofs_no (w := w) (w' := w') h
  have hyes : isRoot k l → rootOf k l = (genOf l, (openV l).2.1.drop 8) := rootOf_yes
  unfold isRoot genOf at hno hyes
  unfold Opens at hO
  obtain ⟨R, hR⟩ : ∃ R, rootOf k l = R := ⟨_, rfl⟩
  rw [hR] at hno hyes ⊢
  clear hR
  generalize openV l = x at *
  obtain ⟨kd, bd, cd⟩ := x
  simp only at hz hO hno hyes
  have H := Lib.hid (And.intro hO (And.intro hno hyes))
  clear hO hno hyes hb
  go_enter Try.func44, Try.ntmps44
  go_wp2_with fail
  refine H.out.1.mono ?_
  rintro e w1 ⟨v1, rfl, o1, b1⟩
  obtain ⟨a1, c1, rfl, hbs⟩ := o1.bs.shape
  have H1 := Lib.hid (And.intro o1 (And.intro b1 hbs))
  clear o1 b1 hbs
  by_cases h1 : cd = 0
  · by_cases h2 : kd = 1
    · subst h1
      subst h2
      by_cases h3 : 8 ≤ bd.length
      · have h3' : ¬ (bd.length : Int) < 8 := by omega
        by_cases h6 : bd.length ≤ 488
        · have h6' : (bd.length : Int) ≤ 488 := by omega
          have h8' : (8 : Int) ≤ (bd.length : Int) := by omega
          obtain ⟨g1, o1', cap1, he1, -, hbs1, hcell⟩ := H1.out.2.2.open (by omega)
          simp only [Value.slice.injEq] at he1
          obtain ⟨rfl, -, rfl⟩ := he1
          have HC := Lib.hid (And.intro hcell hbs1)
          have H36 := Lib.hid (And.intro h3 h6)
          clear hcell hbs1 h3 h6
          go_wp2
          go_loopw [9, 10] (fun m i wr => ∃ r : Nat, r ≤ 8 ∧ i = .int .i64 (r : Int) ∧ m = .int .u64 ((beNat (bd.take r) : Nat) : Int) ∧ Below w1.heap.size w1 wr) (fun _ i _ => 8 - (intOf i).toNat)
          case atStart => exact ⟨0, by omega, rfl, by simp [beNat], Below.refl _ _⟩
          case round =>
            obtain ⟨r, hr, rfl, rfl, hbr⟩ := hrel
            by_cases hlt : r < 8
            · have hlt' : (r : Int) < 8 := by omega
              have hr0 : (0 : Int) ≤ (r : Int) := by omega
              have hrl : (r : Int) < (bd.length : Int) := by omega
              obtain ⟨x, hx⟩ : ∃ x, bd[r]? = some x := ⟨_, List.getElem?_eq_getElem (by omega)⟩
              have hc := (hbr.cell (p := ⟨g1, o1' + r, none⟩) HC.out.2).trans (HC.out.1 r x hx)
              have hbd : beNat (bd.take r) < 72057594037927936 := by
                have h := beNat_lt (bd.take r)
                have : (256 : Nat) ^ (bd.take r).length ≤ 256 ^ 7 := Nat.pow_le_pow_right (by omega) (by have := List.length_take_le r bd; omega)
                omega
              have hxb := x.toNat_lt
              have Hx := Lib.hid (And.intro hx hbr)
              clear hx hbr
              go_wp2
              go_roundw
              case rel =>
                refine ⟨r + 1, by omega, by go_num, ?_, Hx.out.2⟩
                rw [beNat_take_succ bd r x Hx.out.1, or_byte _ x hbd]
              case measure => simp [intOf]; omega
            · obtain rfl : r = 8 := by omega
              have hg := beNat_lt (bd.take 8)
              rw [List.length_take, show min 8 bd.length = 8 by omega] at hg
              obtain ⟨g, hgg⟩ : ∃ g, beNat (bd.take 8) = g := ⟨_, rfl⟩
              rw [hgg] at hg ⊢
              have HR := Lib.hid (And.intro hbr hgg)
              clear hbr hgg
              by_cases h4 : genB g = true
              · have h4a := (genB_iff.1 h4).1
                have h4b := (genB_iff.1 h4).2
                have h4c : ¬ (g : Int) < 1 := by omega
                have h4d : (g : Int) ≤ 4611686018427387904 := by omega
                have hmod : (g : Int) % 2 = ((g % 2 : Nat) : Int) := by omega
                by_cases h5 : g % 2 = k
                · have hroot := H.out.2.2 ⟨trivial, trivial, H36.out.1, by rw [HR.out.2]; exact h4, by rw [HR.out.2]; exact h5, H36.out.2⟩
                  rw [HR.out.2] at hroot
                  have h5' : (g : Int) % 2 = (k : Int) := by omega
                  have HF := Lib.hid hroot
                  have hv2 := bs_from (H1.out.2.2.below HR.out.1) 8 H36.out.1
                  have hown := fun q (hq : (sliced (some ⟨g1, o1', none⟩) 8 bd.length c1 1).ownBlock = some q) => (H1.out.1.own (q := q) (by rw [← sliced_own (some ⟨g1, o1', none⟩) 8 bd.length c1 1 bd.length c1]; exact hq)).1
                  have HV := Lib.hid (And.intro hv2 (And.intro hown (H1.out.2.1.trans (HR.out.1.mono H1.out.2.1.size))))
                  clear hroot h4 h4a h4b h5 hmod hv2 hown
                  by_cases hc8 : c1 = 8
                  all_goals
                    have H8 := Lib.hid hc8
                    go_wp2_with fail
                    go_quiet (fail)
                    go_wp2
                    go_ret2
                    obtain ⟨hv2, hown, hbel⟩ := HV.out
                    rw [HF.out]
                    refine ⟨_, rfl, ⟨?_, ?_⟩, below_drewN hbel _⟩
                    · have := hv2.drewN (n := nq)
                      simpa [sliced, hc8, Addr.add] using this
                    · simpa [sliced, hc8, Addr.add] using hown
                · have HN := Lib.hid (H.out.2.1 · (fun h => h5 (by rw [← HR.out.2]; exact h.2.2.2.2.1)))
                  have h5' : ¬ (g : Int) % 2 = (k : Int) := by omega
                  have hq : ((g : Int) % 2 != (k : Int)) = true := by simpa using h5'
                  clear h4 h4a h4b h5 hmod
                  go_wp2
                  go_ret2
                  exact HN.out _ (H1.out.2.1.trans (HR.out.1.mono H1.out.2.1.size))
              · have HN := Lib.hid (H.out.2.1 · (fun h => h4 (by rw [← HR.out.2]; exact h.2.2.2.1)))
                by_cases h4a : g < 1
                · have h4c : (g : Int) < 1 := by omega
                  clear h4 h4a
                  go_wp2
                  go_ret2
                  exact HN.out _ (H1.out.2.1.trans (HR.out.1.mono H1.out.2.1.size))
                · have h4b : 4611686018427387904 < g := by
                    by_cases h : g ≤ 4611686018427387904
                    · exact absurd (genB_iff.2 ⟨by omega, h⟩) h4
                    · omega
                  have h4c : ¬ (g : Int) < 1 := by omega
                  have h4d : (4611686018427387904 : Int) < (g : Int) := by omega
                  clear h4 h4a h4b
                  go_wp2
                  go_ret2
                  exact HN.out _ (H1.out.2.1.trans (HR.out.1.mono H1.out.2.1.size))
        · have h6' : (488 : Int) < (bd.length : Int) := by omega
          have HN := Lib.hid (H.out.2.1 · (fun h => h6 h.2.2.2.2.2))
          clear h3 h6
          go_wp2
          go_ret2
          exact HN.out _ H1.out.2.1
      · have h3' : (bd.length : Int) < 8 := by omega
        have HN := Lib.hid (H.out.2.1 · (fun h => h3 h.2.2.1))
        clear h3
        go_wp2
        go_ret2
        exact HN.out _ H1.out.2.1
    · have h2' : ¬ ((kd.toNat : Int) = 1) := by
        intro e
        apply h2
        apply UInt8.toNat_inj.1
        rw [show (1 : UInt8).toNat = 1 from rfl]
        omega
      have hq : ((kd.toNat : Int) != 1) = true := by simpa using h2'
      have HN := Lib.hid (H.out.2.1 · (fun h => h2 h.2.1))
      clear h2
      subst h1
      go_wp2
      go_ret2
      exact HN.out _ H1.out.2.1
  · have HN := Lib.hid (H.out.2.1 · (fun h => h1 h.1))
    have hq : (cd != 0) = true := by simpa using h1
    clear h1
    go_wp2
    go_ret2
    exact HN.out _ H1.out.2.1
end Go.Proofs.Ytcpapdpnnlnemaa
namespace Go.Proofs.Ytcpapdpnnlnemaa
open Go.RowKit Go.Maps

section
variable {w w1 w2 : World} {r : Nat} {D D1 D2 : Dv} {F : Nat → Prop}
theorem rs_ahead (h0 : ∀ q, F q → q < w.heap.size) (hb : Below w.heap.size w w1) (hd : Ref w2 r D1 (Grow F w1 w2)) (ho : Only F w1 w2) : Ref w2 r D1 (Grow F w w2) ∧ Only F w w2 := by
  have s1 := hb.size
  have s2 := ho.size
  refine ⟨hd.widen (fun q hq => hq.imp id fun hq => ⟨by omega, hq.2⟩) (fun q hq => ?_), (Only.of_below hb F).trans ho⟩
  rcases hq with hq | hq
  · have := h0 q hq; omega
  · exact hq.2
theorem rs_then (h0 : ∀ q, F q → q < w.heap.size) (ho : Only F w w1) (hd : Ref w2 r D1 (Grow (Grow F w w1) w1 w2)) (h2 : Only (Grow F w w1) w1 w2) : Ref w2 r D1 (Grow F w w2) ∧ Only F w w2 := by
  have s1 := ho.size
  have s2 := h2.size
  refine ⟨hd.widen (fun q hq => ?_) (fun q hq => ?_), ho.then h2 fun q hq => ?_⟩
  · rcases hq with (hq | hq) | hq
    · exact .inl hq
    · exact .inr ⟨hq.1, by omega⟩
    · exact .inr ⟨by omega, hq.2⟩
  · rcases hq with hq | hq
    · have := h0 q hq; omega
    · exact hq.2
  · exact hq.imp id fun h => h.1

set_option maxRecDepth 100000 in
set_option maxHeartbeats 2000000 in
theorem refSave_any {lv : Value} {l : Bytes} {n : Nat} (g : Nat) (h : Ref w r D F) (hu : Upto D n) (hn : n < 1000000) (hl : Bs w lv l) (hlen : l.length ≤ 1099511627776) :
    Calls Try.prog 12 #[ptr r, .int .u64 (g : Int), lv] w (RSteps w r F (sCode D g l) (sDev D g l)) := by
  obtain ⟨la, lc, rfl, _⟩ := hl.shape
  have hlen' : (l.length : Int) ≤ 1099511627776 := by omega
  obtain ⟨gb, cap, cur, lvs, hr⟩ := id h
  have c0 : w.cell? ⟨r, 0, none⟩ = some (.slice (some ⟨gb, 0, none⟩) D.bk.length cap) := by rw [hr.head.cell]; rfl
  have HS := Lib.hid (r_same h)
  by_cases h1 : g < 1
  · have e := save_not (D := D) (l := l) (g := g) fun hm => by have := (genB_iff.1 hm.1).1; omega
    rw [e.1, e.2]
    have h1' : (g : Int) < 1 := by omega
    clear h1 e h hl hu hr
    go_enter Try.func12, Try.ntmps12
    go_wp2
    go_ret
    exact ⟨rfl, HS.out⟩
  have h1' : ¬ (g : Int) < 1 := by omega
  by_cases h2 : 4611686018427387904 < g
  · have e := save_not (D := D) (l := l) (g := g) fun hm => by have := (genB_iff.1 hm.1).2; omega
    rw [e.1, e.2]
    have h2' : (4611686018427387904 : Int) < (g : Int) := by omega
    clear h1 h2 e h hl hu hr
    go_enter Try.func12, Try.ntmps12
    go_wp2
    go_ret
    exact ⟨rfl, HS.out⟩
  have h2' : (g : Int) ≤ 4611686018427387904 := by omega
  by_cases h3 : D.bk.length < 2
  · have e := save_not (D := D) (l := l) (g := g) fun hm => by have := hm.2; omega
    rw [e.1, e.2]
    have h3' : (D.bk.length : Int) < 2 := by omega
    clear h1 h2 h3 e h hl hu hr
    go_enter Try.func12, Try.ntmps12
    go_wp2
    go_ret
    exact ⟨rfl, HS.out⟩
  have h3' : ¬ (D.bk.length : Int) < 2 := by omega
  have hm : sMay D g := ⟨genB_iff.2 ⟨by omega, by omega⟩, by omega⟩
  by_cases h4 : 480 < l.length
  · have e := save_many hm h4
    rw [e.1, e.2]
    have h4' : (480 : Int) < (l.length : Int) := by omega
    clear h1 h2 h3 h4 hm e h hl hu hr
    go_enter Try.func12, Try.ntmps12
    go_wp2
    go_ret
    exact ⟨rfl, HS.out⟩
  have h4' : (l.length : Int) ≤ 480 := by omega
  have hl480 : l.length ≤ 480 := by omega
  have hcode : sCode D g l = (if wroteC D g l = 0 then fcode (wroteD D g l) else wroteC D g l) ∧ sDev D g l = (if wroteC D g l = 0 then fdev (wroteD D g l) else wroteD D g l) := by
    unfold sCode sDev
    constructor
    · rw [if_pos hm, if_neg h4]
    · rw [if_pos hm, if_neg h4]
  have hup := wdev_upto hu ((g % 2 : Nat) : Int) (sealG g l)
  have hmod : (g : Int) % 2 = ((g % 2 : Nat) : Int) := by omega
  have H := Lib.hid (And.intro h (And.intro hl (And.intro hcode (And.intro hup.1 (And.intro (hu.small (by omega)) hmod)))))
  clear h1 h2 h3 h4 hm h hl hu hr hcode hup hmod
  go_enter Try.func12, Try.ntmps12
  go_wp2_with fail
  refine (refRoot_any g w H.out.2.1 (by omega)).mono ?_
  rintro e w1 ⟨v1, rfl, o1, b1⟩
  have hsl := refSeal_any (b := v1) (l := rootL g l) 1 w1 o1.bs
  have hV : sealV 1 (rootL g l) = (sealG g l, 0) := by unfold sealV; rw [if_neg (by decide), if_neg (by rw [rootL_length]; omega)]; rfl
  unfold Seals at hsl
  rw [hV] at hsl
  have H2 := Lib.hid (And.intro b1 hsl)
  clear b1 hsl hV o1
  go_wp2_with fail
  refine H2.out.2.mono ?_
  rintro e w3 ⟨v3, t3, rfl, o3, b3⟩
  have b3' := H2.out.1.trans (b3.mono H2.out.1.size)
  have h3 := H.out.1.below b3'
  have hwr := rwrite_any h3 H.out.2.2.2.2.1 ((g % 2 : Nat) : Int) o3.bs (fun q hq hf => by
    have s1 := o3.own hq
    have s2 := H2.out.1.size
    have s3 := H.out.1.fl q hf
    omega)
  have H3 := Lib.hid (And.intro b3' (And.intro h3 hwr))
  clear b3 b3' h3 hwr o3 H2 c0
  go_wp2_with fail
  rw [H.out.2.2.2.2.2]
  refine H3.out.2.2.mono ?_
  rintro e w4 ⟨rfl, hd4, ho4⟩
  have hdone := rs_ahead H.out.1.fl H3.out.1 hd4 ho4
  have hc := H.out.2.2.1
  unfold wroteC wroteD at hc
  by_cases h0 : wcode D ((g % 2 : Nat) : Int) (sealG g l) = 0
  · rw [if_pos h0, if_pos h0] at hc
    have HE := Lib.hid hc
    have hfl := rflush_any hdone.1
    rw [h0]
    have HD := Lib.hid (And.intro hdone hfl)
    clear hc h0 hd4 ho4 hdone hfl
    go_wp2_with fail
    refine HD.out.2.mono ?_
    rintro e w5 ⟨rfl, hd5, ho5⟩
    have hfin := rs_then H.out.1.fl HD.out.1.2 hd5 ho5
    have HF := Lib.hid hfin
    clear hd5 ho5 hfin
    go_wp2
    go_ret
    rw [HE.out.1, HE.out.2]
    exact ⟨rfl, HF.out⟩
  · have h0' : (wcode D ((g % 2 : Nat) : Int) (sealG g l) != 0) = true := by simpa using h0
    rw [if_neg h0, if_neg h0] at hc
    have HE := Lib.hid hc
    have HD := Lib.hid hdone
    clear hc h0 hd4 ho4 hdone
    generalize wcode D ((g % 2 : Nat) : Int) (sealG g l) = c at *
    go_wp2
    go_ret
    rw [HE.out.1, HE.out.2]
    exact ⟨rfl, HD.out⟩
end
end Go.Proofs.Ytcpapdpnnlnemaa
namespace Go.Proofs.Ytcpapdpnnlnemaa
open Go.RowKit Go.Maps

section
variable {w : World} {r : Nat} {D : Dv} {F : Nat → Prop}
theorem best_tie {a b : Bytes} : (rootOf 0 a).1 ≠ 0 ∨ (rootOf 1 b).1 ≠ 0 → ((rootOf 1 b).1 < (rootOf 0 a).1 → best (rootOf 0 a) (rootOf 1 b) = rootOf 0 a ∧ (rootOf 0 a).1 ≠ 0) ∧ (¬ (rootOf 1 b).1 < (rootOf 0 a).1 → best (rootOf 0 a) (rootOf 1 b) = rootOf 1 b ∧ (rootOf 1 b).1 ≠ 0) := by
  intro h
  unfold best
  refine ⟨fun hlt => ⟨if_neg (by omega), by omega⟩, fun hlt => ?_⟩
  have hne : (rootOf 0 a).1 < (rootOf 1 b).1 := by
    rcases rootOf_own 0 a with e0 | e0 <;> rcases rootOf_own 1 b with e1 | e1
    · rw [e0, e1] at h; simp at h
    · rw [e0]; simp only; omega
    · rw [e1] at hlt; simp only at hlt; omega
    · have h2 := e0.2.2.1; have h3 := e1.2.2.1; omega
  exact ⟨if_pos hne, by omega⟩
theorem best_zero {a b : Bytes} (h0 : (rootOf 0 a).1 = 0) (h1 : (rootOf 1 b).1 = 0) : (best (rootOf 0 a) (rootOf 1 b)).1 = 0 := by
  unfold best
  split <;> assumption

/-- The bytes of a string, laid anew. -/
abbrev strW (w : World) (S : Bytes) : World := (w.alloc (.cells (bytesRow ⟨S.toArray⟩ (grownCap w S.length 0 5)) 5 ((bytesRow ⟨S.toArray⟩ (grownCap w S.length 0 5)).size, (bytesRow ⟨S.toArray⟩ (grownCap w S.length 0 5)).size + 1))).drew
theorem strW_below (w : World) (S : Bytes) : Below w.heap.size w (strW w S) := below_drewN ((Below.refl _ _).alloc (Nat.le_refl _) _) 1
theorem strW_bs (w : World) (S : Bytes) (h : S.length = 512) : Bs (strW w S) (.slice (some ⟨w.heap.size, 0, none⟩) S.length (grownCap w S.length 0 5)) S :=
  (bs_of_string w S _ _ _ (grownCap_ge w S.length 0 _) (grownCap_le_maxLen w S.length 0 _ (by rw [h]; decide))).kept fun _ _ hu => hu
theorem Loads.of {w w' : World} {R : Nat × Bytes × Int} {g : Nat} {l : Bytes} {c : Int} {v : Value} (hR : R = (g, l, c)) (hn : Bs w' v l) (hv : ∀ q, v.ownBlock = some q → w.heap.size ≤ q) (hb : Below w.heap.size w w') : Loads w R (.returned (.tuple #[.int .u64 (g : Int), v, err c])) w' := by
  subst hR
  exact ⟨_, rfl, ⟨hn, hv⟩, hb⟩

set_option maxRecDepth 100000 in
set_option maxHeartbeats 4000000 in
theorem refLoad_any (h : Ref w r D F) (h512 : ∀ (k : Nat) (x : Bk), D.bk[k]? = some x → x.stands.length = 512) : Calls Try.prog 23 #[ptr r] w (Loads w (loadV D)) := by
  have h0 := h
  obtain ⟨gb, cap, cur, lv, hr⟩ := h
  obtain ⟨c0, c1, c2, -⟩ := hr.top
  by_cases ho : D.on = false
  · rw [show loadV D = (0, [], 8) from if_pos ho]
    rw [ho] at c2
    clear h0 hr ho
    go_enter Try.func23, Try.ntmps23
    go_wp2
    go_ret3
    exact ⟨_, rfl, new_nil _ _, Below.refl _ _⟩
  have ho' : D.on = true := by simpa using ho
  rw [ho'] at c2
  by_cases h2 : D.bk.length < 2
  · rw [show loadV D = (0, [], 1) from by unfold loadV; rw [if_neg ho, if_pos h2]]
    have h2' : (D.bk.length : Int) < 2 := by omega
    clear ho ho' hr h0 h2
    go_enter Try.func23, Try.ntmps23
    go_wp2
    go_ret3
    exact ⟨_, rfl, new_nil _ _, Below.refl _ _⟩
  have h2' : ¬ (D.bk.length : Int) < 2 := by omega
  have hd0 : (0 : Int) < (D.bk.length : Int) := by omega
  have hd1 : (1 : Int) < (D.bk.length : Int) := by omega
  obtain ⟨x0, hx0⟩ : ∃ x, D.bk[0]? = some x := ⟨_, List.getElem?_eq_getElem (by omega)⟩
  obtain ⟨x1, hx1⟩ : ∃ x, D.bk[1]? = some x := ⟨_, List.getElem?_eq_getElem (by omega)⟩
  obtain ⟨R, hR⟩ : ∃ R, loadV D = R := ⟨_, rfl⟩
  have hl : (if (best (rootOf 0 x0.stands) (rootOf 1 x1.stands)).1 = 0 then (0, [], 4) else ((best (rootOf 0 x0.stands) (rootOf 1 x1.stands)).1, (best (rootOf 0 x0.stands) (rootOf 1 x1.stands)).2, 0)) = R := by
    rw [← hR]
    unfold loadV
    rw [if_neg ho, if_neg h2, stAt_of hx0, stAt_of hx1]
  rw [hR]
  have hat0 := fun (W : World) (hW : Below w.heap.size w W) => (hr.kept (fun q hq => hW.block q (hr.fl q hq)) hW.size).at hx0
  have hat1 := fun (W : World) (hW : Below w.heap.size w W) => (hr.kept (fun q hq => hW.block q (hr.fl q hq)) hW.size).at hx1
  have htop := fun (W : World) (hW : Below w.heap.size w W) => ((hr.kept (fun q hq => hW.block q (hr.fl q hq)) hW.size).top).1
  have hrow0 := fun (W : World) (hW : Below w.heap.size w W) => (hr.kept (fun q hq => hW.block q (hr.fl q hq)) hW.size).loose 0 x0 hx0
  have hrow1 := fun (W : World) (hW : Below w.heap.size w W) => (hr.kept (fun q hq => hW.block q (hr.fl q hq)) hW.size).loose 1 x1 hx1
  have hcv := fun (W : World) (s : Bytes) => run_bytes_of_string (P := Try.prog) W 9 33 5 ⟨s.toArray⟩ Try.underlying9 Try.underlying33 Try.underlying5
  have HX := Lib.hid (And.intro hat0 (And.intro hat1 (And.intro htop (And.intro hrow0 (And.intro hrow1 (And.intro hcv (And.intro hl (And.intro (h512 0 x0 hx0) (h512 1 x1 hx1)))))))))
  obtain ⟨a0, a1, -, -⟩ := hr.at hx0
  rw [show 0 * 2 = 0 from rfl] at a0
  rw [show 0 * 2 + 1 = 1 from rfl] at a1
  clear hat0 hat1 htop hrow0 hrow1 hcv hl h512 h0 hr ho ho' h2 hx0 hx1 hR
  generalize hV0 : lv 0 = V0 at *
  generalize hV1 : lv 1 = V1 at *
  clear hV0 hV1
  generalize hS0 : str x0.sure = S0 at *
  generalize hS1 : str x1.sure = S1 at *
  go_enter Try.func23, Try.ntmps23
  go_wp2_with fail
  rw [← hS0]
  refine (rstands_any (HX.out.2.2.2.1 w (Below.refl _ _))).mono ?_
  rintro e w2 ⟨rfl, hb2⟩
  have hc := HX.out.2.2.2.2.2.1 w2 x0.stands
  rw [show Bk.stands ⟨x0.sure, x0.loose⟩ = x0.stands from rfl]
  have hof := refOf_any 0 (strW w2 x0.stands) (strW_bs w2 x0.stands HX.out.2.2.2.2.2.2.2.1)
  have hb3 := hb2.trans ((strW_below w2 x0.stands).mono hb2.size)
  have H3 := Lib.hid (And.intro hof hb3)
  clear hof hb3 hb2
  go_wp2_with fail
  refine H3.out.1.mono ?_
  rintro e w4 ⟨v4, rfl, hn4, hb4⟩
  obtain ⟨p4, n4, c4, rfl⟩ := hn4.slice
  have hb5 := H3.out.2.trans (hb4.mono H3.out.2.size)
  have hz3 := H3.out.2.size
  have H4 := Lib.hid (And.intro hn4.1 (And.intro (fun q hq => Nat.le_trans hz3 (hn4.2 q hq)) hb5))
  have d0 := HX.out.2.2.1 w4 hb5
  obtain ⟨d1, d2, -, -⟩ := HX.out.2.1 w4 hb5
  rw [show 1 * 2 = 2 from rfl] at d1
  rw [show 2 + 1 = 3 from rfl] at d2
  clear hn4 hb4 hb5 H3 hc a0 a1 hz3
  go_wp2_with fail
  rw [← hS1]
  refine (rstands_any (HX.out.2.2.2.2.1 w4 H4.out.2.2)).mono ?_
  rintro e w5 ⟨rfl, hb5⟩
  have hc := HX.out.2.2.2.2.2.1 w5 x1.stands
  rw [show Bk.stands ⟨x1.sure, x1.loose⟩ = x1.stands from rfl]
  have hof := refOf_any 1 (strW w5 x1.stands) (strW_bs w5 x1.stands HX.out.2.2.2.2.2.2.2.2)
  have hb6 := hb5.trans ((strW_below w5 x1.stands).mono hb5.size)
  have H5 := Lib.hid (And.intro hof hb6)
  clear hof hb6 hb5
  go_wp2_with fail
  refine H5.out.1.mono ?_
  rintro e w7 ⟨v7, rfl, hn7, hb7⟩
  obtain ⟨p7, n7, c7, rfl⟩ := hn7.slice
  have hb8 := H5.out.2.trans (hb7.mono H5.out.2.size)
  have hz5 := H5.out.2.size
  have hz4 := H4.out.2.2.size
  have H7 := Lib.hid (And.intro hn7.1 (And.intro (fun q hq => Nat.le_trans hz4 (Nat.le_trans hz5 (hn7.2 q hq))) (And.intro (H4.out.1.below hb8) (H4.out.2.2.trans (hb8.mono hz4)))))
  have HT := Lib.hid (best_tie (a := x0.stands) (b := x1.stands))
  have HZ := Lib.hid (best_zero (a := x0.stands) (b := x1.stands))
  have HL := Lib.hid HX.out.2.2.2.2.2.2.1
  have H40 := Lib.hid H4.out.2.1
  clear hn7 hb7 hb8 H5 hc d0 d1 d2 hz5 hz4 H4 HX
  generalize rootOf 0 x0.stands = A at *
  generalize rootOf 1 x1.stands = B at *
  by_cases hA : A.1 = 0
  · by_cases hB : B.1 = 0
    · have hA' : (A.1 : Int) = 0 := by omega
      have hB' : (B.1 : Int) = 0 := by omega
      have hl := HL.out
      rw [if_pos (HZ.out hA hB)] at hl
      have HF := Lib.hid hl
      clear hA hB hl
      go_wp2_with fail
      go_ret3
      exact Loads.of HF.out.symm (Bs.nil _) (fun q h => by cases h) H7.out.2.2.2
    · have hA' : (A.1 : Int) = 0 := by omega
      have hB' : ¬ (B.1 : Int) = 0 := by omega
      have hBb : ((B.1 : Int) == 0) = false := by rw [beq_eq_false_iff_ne]; exact hB'
      have hlt : ¬ (B.1 : Int) < (A.1 : Int) := by omega
      have ht := (HT.out (.inr hB)).2 (by omega)
      have hl := HL.out
      rw [ht.1, if_neg ht.2] at hl
      have HF := Lib.hid hl
      clear hA hB hl ht
      go_wp2_with fail
      go_ret3
      exact Loads.of HF.out.symm H7.out.1 H7.out.2.1 H7.out.2.2.2
  · have hA' : ¬ (A.1 : Int) = 0 := by omega
    have hAb : ((A.1 : Int) == 0) = false := by rw [beq_eq_false_iff_ne]; exact hA'
    by_cases hlt : B.1 < A.1
    · have hlt' : (B.1 : Int) < (A.1 : Int) := by omega
      have ht := (HT.out (.inl hA)).1 hlt
      have hl := HL.out
      rw [ht.1, if_neg ht.2] at hl
      have HF := Lib.hid hl
      clear hA hlt hl ht
      go_wp2_with fail
      go_ret3
      exact Loads.of HF.out.symm H7.out.2.2.1 H40.out H7.out.2.2.2
    · have hlt' : ¬ (B.1 : Int) < (A.1 : Int) := by omega
      have ht := (HT.out (.inl hA)).2 hlt
      have hl := HL.out
      rw [ht.1, if_neg ht.2] at hl
      have HF := Lib.hid hl
      clear hA hlt hl ht
      go_wp2_with fail
      go_ret3
      exact Loads.of HF.out.symm H7.out.1 H7.out.2.1 H7.out.2.2.2
end
end Go.Proofs.Ytcpapdpnnlnemaa
namespace Go.Proofs.Ytcpapdpnnlnemaa
open Go.RowKit Go.Maps

def rawB (s : Stp) : Bytes := if 497 < s.b.length then noughts else sealG s.gen s.b
def rawL (s : Stp) : Bytes := (rawB s).set (s.at_ % 512) (UInt8.ofNat (((rawB s).getD (s.at_ % 512) 0).toNat ^^^ s.t.toNat))
theorem rawB_length (s : Stp) : (rawB s).length = 512 := by
  unfold rawB
  split
  · unfold noughts; rw [List.length_replicate]
  · exact sealL_length (by rw [rootL_length]; omega)
theorem rawL_length (s : Stp) : (rawL s).length = 512 := by unfold rawL; rw [List.length_set]; exact rawB_length s

def Raws (w : World) (l : Bytes) (e : Ending) (w' : World) : Prop := ∃ v, e = .returned v ∧ New w w' v l ∧ Below w.heap.size w w'
theorem bxor_val (x y : UInt8) : Value.int .u8 (bits .xor .u8 (x.toNat : Int) (y.toNat : Int)) = bv (UInt8.ofNat (x.toNat ^^^ y.toNat)) := by
  have h2 : x.toNat ^^^ y.toNat < 256 := Nat.xor_lt_two_pow (n := 8) x.toNat_lt y.toNat_lt
  rw [u8_xor_nat x.toNat y.toNat x.toNat_lt y.toNat_lt]
  unfold bv
  rw [UInt8.toNat_ofNat', Nat.mod_eq_of_lt h2]

set_option maxRecDepth 100000 in
set_option maxHeartbeats 2000000 in
theorem raw_any (s : Stp) (w : World) (hi : s.In w) (hl : s.b.length ≤ 20000) : Calls Try.prog 20 #[s.val] w (Raws w (rawL s)) := by
  have hR : rawL s = (rawB s).set (s.at_ % 512) (UInt8.ofNat (((rawB s).getD (s.at_ % 512) 0).toNat ^^^ s.t.toNat)) := rfl
  have hBl := rawB_length s
  have hB : rawB s = if 497 < s.b.length then noughts else sealG s.gen s.b := rfl
  generalize rawL s = R at *
  generalize rawB s = RB at *
  obtain ⟨ba, bc, hbv, -⟩ := hi.body.shape
  obtain ⟨pa, pc, hpv⟩ := hi.picks.shape
  obtain ⟨so, sg, sbv, sb, sn, sat, st, spv, sps⟩ := s
  simp only at hbv hpv hl hR hB ⊢
  subst hbv
  subst hpv
  have hc := Cel.new w (stepCs so sn sg sat st (.slice ba sb.length bc) (.slice pa sps.length pc)) 37
  have hb0 : Below w.heap.size w (w.alloc (.cells (stepCs so sn sg sat st (.slice ba sb.length bc) (.slice pa sps.length pc)) 37)) := (Below.refl _ _).alloc (Nat.le_refl _) _
  have hrt := refRoot_any sg (w.alloc (.cells (stepCs so sn sg sat st (.slice ba sb.length bc) (.slice pa sps.length pc)) 37)) (hi.body.below hb0) (by simp only; omega)
  have H := Lib.hid (And.intro hc (And.intro hb0 (And.intro hrt (And.intro hi (And.intro hR hB)))))
  have hat := hi.at_
  simp only at hat
  have HB := Lib.hid hBl
  clear hc hb0 hrt hi hR hB hBl
  go_enter Try.func20, Try.ntmps20
  go_wp2_with fail
  refine H.out.2.2.1.mono ?_
  rintro e w1 ⟨v1, rfl, o1, b1⟩
  have hsl := refSeal_any (b := v1) (l := rootL sg sb) 1 w1 o1.bs
  have hc1 := H.out.1.below b1 H.out.1.lt
  have hb1 := H.out.2.1.trans (b1.mono H.out.2.1.size)
  by_cases h497 : 497 < sb.length
  · have hV : sealV 1 (rootL sg sb) = ([], 6) := by unfold sealV; rw [if_neg (by decide), if_pos (by rw [rootL_length]; omega)]
    have hRB := H.out.2.2.2.2.2
    rw [if_pos h497] at hRB
    unfold Seals at hsl
    rw [hV] at hsl
    have H1 := Lib.hid (And.intro hsl (And.intro hc1 (And.intro hb1 (And.intro H.out.2.2.2.2.1 hRB))))
    clear hsl hc1 b1 hb1 o1 hV hRB H h497
    go_wp2_with fail
    refine H1.out.1.mono ?_
    rintro e w2 ⟨v2, t2, rfl, o2, b2⟩
    have hc2 := H1.out.2.1.below b2 H1.out.2.1.lt
    have hb2 := H1.out.2.2.1.trans (b2.mono H1.out.2.2.1.size)
    obtain ⟨w3, hmk, o3, g3⟩ := run_zeros_bs bt w2 w2.heap.size .i64 .i64 512 (by decide) (Nat.le_refl _)
    rw [show ((512 : Nat) : Int) = 512 from rfl] at hmk
    have b3 : Below w2.heap.size w2 w3 := (Below.refl _ _).grown g3 (Nat.le_refl _) (fun _ h => by cases h)
    have hc3 := hc2.below b3 hc2.lt
    have hb3 := hb2.trans (b3.mono hb2.size)
    have o3' : Ow w3 (w.heap.size + 1) 5 (.slice (some ⟨w2.heap.size, 0, none⟩) 512 512) RB := by rw [H1.out.2.2.2.2]; exact o3.mono hc2.lt
    have H3 := Lib.hid (And.intro o3' (And.intro hc3 (And.intro hb3 H1.out.2.2.2.1)))
    have k4 : w3.cell? ⟨w.heap.size, 4, none⟩ = some (.int .u16 (sat : Int)) := by rw [hc3.cell]; rfl
    have k5 : w3.cell? ⟨w.heap.size, 5, none⟩ = some (.int .u8 (st.toNat : Int)) := by rw [hc3.cell]; rfl
    clear o2 b2 hc2 hb2 o3 g3 b3 hc3 hb3 o3' H1
    obtain ⟨g3, p3, hv3, hg3⟩ := H3.out.1.form (by rw [HB.out]; decide)
    rw [HB.out] at hv3
    simp only [Value.slice.injEq, Option.some.injEq, Addr.mk.injEq] at hv3
    obtain ⟨⟨rfl, -, -⟩, -, rfl⟩ := hv3
    have hv3 : Value.slice (some ⟨w2.heap.size, 0, none⟩) 512 512 = .slice (some ⟨w2.heap.size, 0, none⟩) 512 512 := rfl
    have hm : sat % 512 < RB.length := by rw [HB.out]; omega
    have hq := H3.out.1
    rw [hv3] at hq
    have hat' := hq.at (sat % 512) hm
    obtain ⟨y, hy⟩ : ∃ y, RB[sat % 512]? = some y := ⟨_, List.getElem?_eq_getElem hm⟩
    have hyy : RB[sat % 512]'hm = y := by rw [List.getElem?_eq_getElem hm] at hy; exact Option.some.inj hy
    have d4 : w3.cell? ⟨w2.heap.size, sat % 512, none⟩ = some (.int .u8 (y.toNat : Int)) := by rw [hat'.1, hyy]; rfl
    have d5 := hat'.2.1
    have hqd : Ow w3.drew (w.heap.size + 1) _ (.slice (some ⟨w2.heap.size, 0, none⟩) 512 _) RB := hq
    have hfin := hqd.set (sat % 512) (UInt8.ofNat (y.toNat ^^^ st.toNat))
    have hRR := H3.out.2.2.2
    rw [List.getD_eq_getElem?_getD, hy, Option.getD_some] at hRR
    rw [← hRR, ← bxor_val y st] at hfin
    have i0 : (sat : Int).tmod 512 = (sat : Int) % 512 := Int.tmod_eq_emod_of_nonneg (by omega)
    have i2 : IntKind.i64.wrap (sat : Int) = (sat : Int) := IntWalk.i64_in _ (by omega)
    have i3 : (0 : Int) ≤ (sat : Int) % 512 := by omega
    have i4 : (sat : Int) % 512 < 512 := by omega
    have i5 : ((sat : Int) % 512).toNat = sat % 512 := by omega
    have H4 := Lib.hid (And.intro hfin (And.intro (show Below w.heap.size w w3.drew from below_drewN H3.out.2.2.1 1) hg3))
    clear hq hqd hat' hy hyy hfin hRR hm H3 hg3
    clear hv3
    go_wp2_with fail
    go_still_tail 13, (by kernel_rfl)
    change wpList _ _ _ _ _ w3.drew
    have e5 : w3.drew.frozen? ⟨w2.heap.size, sat % 512, none⟩ = false := d5
    have e4 : w3.drew.cell? ⟨w2.heap.size, sat % 512, none⟩ = _ := d4
    clear d4 d5 k4 k5
    generalize w3.drew = w4 at *
    go_wp2
    go_ret
    have hz := H4.out.2.2
    exact ⟨_, rfl, ⟨H4.out.1.bs, fun q hq => by have := H4.out.1.own hq; omega⟩, H4.out.2.1.setCell (by simp only; omega) _⟩
  · have hV : sealV 1 (rootL sg sb) = (sealG sg sb, 0) := by unfold sealV; rw [if_neg (by decide), if_neg (by rw [rootL_length]; omega)]; rfl
    have hRB := H.out.2.2.2.2.2
    rw [if_neg h497] at hRB
    unfold Seals at hsl
    rw [hV, ← hRB] at hsl
    have H1 := Lib.hid (And.intro hsl (And.intro hc1 (And.intro hb1 H.out.2.2.2.2.1)))
    clear hsl hc1 b1 hb1 o1 hV hRB H h497
    go_wp2_with fail
    refine H1.out.1.mono ?_
    rintro e w3 ⟨v3, t3, rfl, o3, b3⟩
    have hc3 := H1.out.2.1.below b3 H1.out.2.1.lt
    have hb3 := H1.out.2.2.1.trans (b3.mono H1.out.2.2.1.size)
    have o3' := o3.mono (base' := w.heap.size + 1) H1.out.2.1.lt
    have H3 := Lib.hid (And.intro o3' (And.intro hc3 (And.intro hb3 H1.out.2.2.2)))
    have k4 : w3.cell? ⟨w.heap.size, 4, none⟩ = some (.int .u16 (sat : Int)) := by rw [hc3.cell]; rfl
    have k5 : w3.cell? ⟨w.heap.size, 5, none⟩ = some (.int .u8 (st.toNat : Int)) := by rw [hc3.cell]; rfl
    clear hc3 hb3 o3 b3 H1
    obtain ⟨g3, p3, hv3, hg3⟩ := H3.out.1.form (by rw [HB.out]; decide)
    rw [HB.out] at hv3
    have hm : sat % 512 < RB.length := by rw [HB.out]; omega
    have hq := H3.out.1
    rw [hv3] at hq
    have hat' := hq.at (sat % 512) hm
    obtain ⟨y, hy⟩ : ∃ y, RB[sat % 512]? = some y := ⟨_, List.getElem?_eq_getElem hm⟩
    have hyy : RB[sat % 512]'hm = y := by rw [List.getElem?_eq_getElem hm] at hy; exact Option.some.inj hy
    have d4 : w3.cell? ⟨g3, sat % 512, none⟩ = some (.int .u8 (y.toNat : Int)) := by rw [hat'.1, hyy]; rfl
    have d5 := hat'.2.1
    have hqd : Ow w3.drew (w.heap.size + 1) _ (.slice (some ⟨g3, 0, none⟩) 512 _) RB := hq
    have hfin := hqd.set (sat % 512) (UInt8.ofNat (y.toNat ^^^ st.toNat))
    have hRR := H3.out.2.2.2
    rw [List.getD_eq_getElem?_getD, hy, Option.getD_some] at hRR
    rw [← hRR, ← bxor_val y st] at hfin
    have i0 : (sat : Int).tmod 512 = (sat : Int) % 512 := Int.tmod_eq_emod_of_nonneg (by omega)
    have i2 : IntKind.i64.wrap (sat : Int) = (sat : Int) := IntWalk.i64_in _ (by omega)
    have i3 : (0 : Int) ≤ (sat : Int) % 512 := by omega
    have i4 : (sat : Int) % 512 < 512 := by omega
    have i5 : ((sat : Int) % 512).toNat = sat % 512 := by omega
    have H4 := Lib.hid (And.intro hfin (And.intro (show Below w.heap.size w w3.drew from below_drewN H3.out.2.2.1 1) hg3))
    clear hq hqd hat' hy hyy hfin hRR hm H3 hg3
    subst hv3
    go_wp2_with fail
    go_still_tail 13, (by kernel_rfl)
    change wpList _ _ _ _ _ w3.drew
    have e5 : w3.drew.frozen? ⟨g3, sat % 512, none⟩ = false := d5
    have e4 : w3.drew.cell? ⟨g3, sat % 512, none⟩ = _ := d4
    clear d4 d5 k4 k5
    generalize w3.drew = w4 at *
    go_wp2
    go_ret
    have hz := H4.out.2.2
    exact ⟨_, rfl, ⟨H4.out.1.bs, fun q hq => by have := H4.out.1.own hq; omega⟩, H4.out.2.1.setCell (by simp only; omega) _⟩
end Go.Proofs.Ytcpapdpnnlnemaa
namespace Go.Proofs.Ytcpapdpnnlnemaa
open Go.RowKit Go.Maps

/-- The device has D, the document's E, each in memory of its own that was laid since w0; beside them Q lasts. -/
def Pr2 (w0 w : World) (b r : Nat) (D E : Dv) (Q : World → Prop) : Prop :=
  ∃ F G P, Two w0 w b r D E F G ∧ (∀ q, P q → q < w.heap.size ∧ ¬ F q ∧ ¬ G q) ∧ Lasts P w Q

section
variable {w0 w w' : World} {b r n : Nat} {D D' E E' : Dv} {Q R : World → Prop} {c : Int} {v : Value} {l : Bytes}

theorem Pr2.now (h : Pr2 w0 w b r D E Q) : Q w := let ⟨_, _, _, _, _, h⟩ := h; h w fun _ _ => rfl
theorem Pr2.under (h : Pr2 w0 w b r D E Q) : Below w0.heap.size w0 w := let ⟨_, _, _, h, _⟩ := h; h.under
theorem Pr2.base {w1 : World} (h : Pr2 w1 w b r D E Q) (hb : Below w0.heap.size w0 w1) : Pr2 w0 w b r D E Q := by
  obtain ⟨F, G, P, h1, h2, h3⟩ := h
  have hz := hb.size
  exact ⟨F, G, P, { dev := h1.dev, ref := h1.ref, fo := fun q hq => by have := h1.fo q hq; omega, go := fun q hq => by have := h1.go q hq; omega, apart := h1.apart, under := hb.trans (h1.under.mono hz) }, h2, h3⟩
theorem Pr2.forget (h : Pr2 w0 w b r D E Q) (hr : ∀ W, Q W → R W) : Pr2 w0 w b r D E R := by
  obtain ⟨F, G, P, h1, h2, h3⟩ := h
  exact ⟨F, G, P, h1, h2, fun w'' hk => hr _ (h3 w'' hk)⟩
theorem Pr2.later (h : Pr2 w0 w b r D E Q) (hb : Below w.heap.size w w') : Pr2 w0 w' b r D E Q := by
  obtain ⟨F, G, P, h1, h2, h3⟩ := h
  exact ⟨F, G, P, h1.later hb, fun q hq => ⟨Nat.lt_of_lt_of_le (h2 q hq).1 hb.size, (h2 q hq).2⟩, fun w'' hk => h3 w'' fun q hq => (hk q hq).trans (hb.block q (h2 q hq).1)⟩
theorem Pr2.with (h : Pr2 w0 w b r D E Q) (hb : Below w.heap.size w w') {S : Nat → Prop} (hs : Lasts S w' R) (hS : ∀ q, S q → w.heap.size ≤ q ∧ q < w'.heap.size) : Pr2 w0 w' b r D E (fun W => Q W ∧ R W) := by
  obtain ⟨F, G, P, h1, h2, h3⟩ := h
  refine ⟨F, G, fun q => P q ∨ S q, h1.later hb, fun q hq => hq.elim (fun hq => ⟨Nat.lt_of_lt_of_le (h2 q hq).1 hb.size, (h2 q hq).2⟩) fun hq => ⟨(hS q hq).2, fun hf => by have := h1.dev.fl q hf; have := (hS q hq).1; omega, fun hg => by have := h1.ref.fl q hg; have := (hS q hq).1; omega⟩,
    fun w'' hk => ⟨h3 w'' fun q hq => (hk q (.inl hq)).trans (hb.block q (h2 q hq).1), hs w'' fun q hq => hk q (.inr hq)⟩⟩
theorem Pr2.bytes (h : Pr2 w0 w b r D E Q) (hn : New w w' v l) (hb : Below w.heap.size w w') : Pr2 w0 w' b r D E (fun W => Q W ∧ Bs W v l) :=
  h.with hb (bs_lasts hn.1) fun q hq => ⟨hn.2 q hq.2, hn.1.old (List.length_pos_iff.2 hq.1) hq.2⟩
theorem Pr2.cells (h : Pr2 w0 w b r D E Q) (cs : Array Value) (T : TypeId) : Pr2 w0 (w.alloc (.cells cs T)) b r D E (fun W => Q W ∧ Cel W w.heap.size cs.toList T) :=
  h.with ((Below.refl _ _).alloc (Nat.le_refl _) _) (S := fun q => q = w.heap.size) (fun _ hk => (Cel.new w cs T).kept (hk _ rfl)) fun q e => ⟨by omega, by simp [e]⟩

theorem Pr2.dstep {f : FuncId} {args : Array Value} (h : Pr2 w0 w b r D E Q) (hs : ∀ F, Dev w b D F → (∀ q, F q → w0.heap.size ≤ q) → Calls Try.prog f args w (DSteps w b F c D')) : Calls Try.prog f args w fun e w' => e = .returned (err c) ∧ Pr2 w0 w' b r D' E Q := by
  obtain ⟨F, G, P, h1, h2, h3⟩ := h
  refine (hs F h1.dev h1.fo).mono ?_
  rintro e w' ⟨rfl, hd, ho⟩
  exact ⟨rfl, _, G, P, h1.dstep hd ho, fun q hq => ⟨Nat.lt_of_lt_of_le (h2 q hq).1 ho.size, fun hf => hf.elim (h2 q hq).2.1 fun hf => by have := (h2 q hq).1; omega, (h2 q hq).2.2⟩, fun w'' hk => h3 w'' fun q hq => (hk q hq).trans (ho.block q (h2 q hq).1 (h2 q hq).2.1)⟩
theorem Pr2.rstep {f : FuncId} {args : Array Value} (h : Pr2 w0 w b r D E Q) (hs : ∀ G, Ref w r E G → (∀ q, G q → w0.heap.size ≤ q) → Calls Try.prog f args w (RSteps w r G c E')) : Calls Try.prog f args w fun e w' => e = .returned (err c) ∧ Pr2 w0 w' b r D E' Q := by
  obtain ⟨F, G, P, h1, h2, h3⟩ := h
  refine (hs G h1.ref h1.go).mono ?_
  rintro e w' ⟨rfl, hd, ho⟩
  exact ⟨rfl, F, _, P, h1.rstep hd ho, fun q hq => ⟨Nat.lt_of_lt_of_le (h2 q hq).1 ho.size, (h2 q hq).2.1, fun hf => hf.elim (h2 q hq).2.2 fun hf => by have := (h2 q hq).1; omega⟩, fun w'' hk => h3 w'' fun q hq => (hk q hq).trans (ho.block q (h2 q hq).1 (h2 q hq).2.2)⟩

theorem p_save {lv : Value} {x : Bytes} (g : Nat) (h : Pr2 w0 w b r D E Q) (hu : Upto D n) (hn : n < 1000000) (hg : g < 18446744073709551616) (hl : Bs w lv x) :
    Calls Try.prog 11 #[ptr b, .int .u64 (g : Int), lv] w fun e w' => e = .returned (err (sCode D g x)) ∧ Pr2 w0 w' b r (sDev D g x) E Q := h.dstep fun _ hd _ => save_any g hd hu hn hg hl
theorem p_rsave {lv : Value} {x : Bytes} (g : Nat) (h : Pr2 w0 w b r D E Q) (hu : Upto E n) (hn : n < 1000000) (hl : Bs w lv x) (hx : x.length ≤ 1099511627776) :
    Calls Try.prog 12 #[ptr r, .int .u64 (g : Int), lv] w fun e w' => e = .returned (err (sCode E g x)) ∧ Pr2 w0 w' b r D (sDev E g x) Q := h.rstep fun _ hd _ => refSave_any g hd hu hn hl hx
theorem p_load (h : Pr2 w0 w b r D E Q) : Calls Try.prog 22 #[ptr b] w fun e w' => ∃ v, e = .returned (.tuple #[.int .u64 ((loadV D).1 : Int), v, err (loadV D).2.2]) ∧ Pr2 w0 w' b r D E (fun W => Q W ∧ Bs W v (loadV D).2.1) := by
  have h0 := h
  obtain ⟨F, G, P, h1, _⟩ := h
  refine (load_any h1.dev).mono ?_
  rintro e w' ⟨v, rfl, hn, hb⟩
  exact ⟨v, rfl, h0.bytes hn hb⟩
theorem p_rload (h : Pr2 w0 w b r D D Q) : Calls Try.prog 23 #[ptr r] w fun e w' => ∃ v, e = .returned (.tuple #[.int .u64 ((loadV D).1 : Int), v, err (loadV D).2.2]) ∧ Pr2 w0 w' b r D D (fun W => Q W ∧ Bs W v (loadV D).2.1) := by
  have h0 := h
  obtain ⟨F, G, P, h1, _⟩ := h
  refine (refLoad_any h1.ref fun k x hx => stands_len h1.dev hx).mono ?_
  rintro e w' ⟨v, rfl, hn, hb⟩
  exact ⟨v, rfl, h0.bytes hn hb⟩
theorem p_arm (h : Pr2 w0 w b r D E Q) (m : Int) (hm : m ≤ 9223372036854775807) : Calls Try.prog 13 #[ptr b, .int .i64 m] w fun e w' => e = .returned (err (acode D)) ∧ Pr2 w0 w' b r (adev D m) E Q := h.dstep fun _ hd _ => darm_any hd m hm
theorem p_rarm (h : Pr2 w0 w b r D E Q) (m : Int) (hm : m ≤ 9223372036854775807) : Calls Try.prog 14 #[ptr r, .int .i64 m] w fun e w' => e = .returned (err (acode E)) ∧ Pr2 w0 w' b r D (adev E m) Q := h.rstep fun _ hd _ => rarm_any hd m hm
theorem p_off (h : Pr2 w0 w b r D E Q) : Calls Try.prog 15 #[ptr b] w fun e w' => e = .returned (err (ocode D)) ∧ Pr2 w0 w' b r (odev D) E Q := h.dstep fun _ hd _ => doff_any hd
theorem p_roff (h : Pr2 w0 w b r D E Q) : Calls Try.prog 16 #[ptr r] w fun e w' => e = .returned (err (ocode E)) ∧ Pr2 w0 w' b r D (odev E) Q := h.rstep fun _ hd _ => roff_any hd
theorem old_off {pv : Value} {ps : List Int} (hp : Iv w0 pv ps) {F : Nat → Prop} (hf : ∀ q, F q → w0.heap.size ≤ q) : ps ≠ [] → ∀ q, pv.ownBlock = some q → ¬ F q := fun hne q hq hF => by
  obtain ⟨u, r, rfl⟩ := List.exists_cons_of_ne_nil hne
  obtain ⟨g, o, cap, rfl, hc⟩ := hp.open (i := 0) rfl
  cases hq
  have := World.block_lt_of_cell? w0 _ hc.1
  simp only at this
  have := hf g hF
  omega
theorem p_on (h : Pr2 w0 w b r D E Q) (hu : Upto D n) (hn : n < 1000000) {pv : Value} {ps : List Int} (hp : Iv w0 pv ps) : Calls Try.prog 17 #[ptr b, pv] w fun e w' => e = .returned (err (ncode D)) ∧ Pr2 w0 w' b r (ndev D ps) E Q :=
  h.dstep fun _ hd hf => don_any hd (hu.small (by omega)) (hp.kept fun q _ _ hq => h.under.block q hq) (old_off hp hf)
theorem p_ron (h : Pr2 w0 w b r D E Q) (hu : Upto E n) (hn : n < 1000000) {pv : Value} {ps : List Int} (hp : Iv w0 pv ps) : Calls Try.prog 18 #[ptr r, pv] w fun e w' => e = .returned (err (ncode E)) ∧ Pr2 w0 w' b r D (ndev E ps) Q :=
  h.rstep fun _ hd hf => ron_any hd (hu.small (by omega)) (hp.kept fun q _ _ hq => h.under.block q hq) (old_off hp hf)
/-- Bytes that were laid since are written. -/
theorem p_write (h0 : Pr2 w0 w b r D E Q) (hn : New w w' v l) (hb : Below w.heap.size w w') (hu : Upto D n) (hn' : n < 1000000) (k : Int) : Calls Try.prog 19 #[ptr b, .int .i64 k, v] w' fun e w'' => e = .returned (err (wcode D k l)) ∧ Pr2 w0 w'' b r (wdev D k l) E Q := by
  obtain ⟨F, G, P, h1, h2, h3⟩ := h0
  have h4 : Two w0 w' b r D E F G := h1.later hb
  refine (dwrite_any h4.dev (hu.small (by omega)) k hn.1 fun q hq hf => by have := hn.2 q hq; have := h1.dev.fl q hf; omega).mono ?_
  rintro e w'' ⟨rfl, hd, ho⟩
  exact ⟨rfl, _, G, P, h4.dstep hd ho, fun q hq => ⟨Nat.lt_of_lt_of_le (h2 q hq).1 (Nat.le_trans hb.size ho.size), fun hf => hf.elim (h2 q hq).2.1 fun hf => by have := (h2 q hq).1; have := hb.size; omega, (h2 q hq).2.2⟩, fun W hk => h3 W fun q hq => (hk q hq).trans ((ho.block q (Nat.lt_of_lt_of_le (h2 q hq).1 hb.size) (h2 q hq).2.1).trans (hb.block q (h2 q hq).1))⟩
theorem p_rwrite (h0 : Pr2 w0 w b r D E Q) (hn : New w w' v l) (hb : Below w.heap.size w w') (hu : Upto E n) (hn' : n < 1000000) (k : Int) : Calls Try.prog 21 #[ptr r, .int .i64 k, v] w' fun e w'' => e = .returned (err (wcode E k l)) ∧ Pr2 w0 w'' b r D (wdev E k l) Q := by
  obtain ⟨F, G, P, h1, h2, h3⟩ := h0
  have h4 : Two w0 w' b r D E F G := h1.later hb
  refine (rwrite_any h4.ref (hu.small (by omega)) k hn.1 fun q hq hf => by have := hn.2 q hq; have := h1.ref.fl q hf; omega).mono ?_
  rintro e w'' ⟨rfl, hd, ho⟩
  exact ⟨rfl, F, _, P, h4.rstep hd ho, fun q hq => ⟨Nat.lt_of_lt_of_le (h2 q hq).1 (Nat.le_trans hb.size ho.size), (h2 q hq).2.1, fun hf => hf.elim (h2 q hq).2.2 fun hf => by have := (h2 q hq).1; have := hb.size; omega⟩, fun W hk => h3 W fun q hq => (hk q hq).trans ((ho.block q (Nat.lt_of_lt_of_le (h2 q hq).1 hb.size) (h2 q hq).2.2).trans (hb.block q (h2 q hq).1))⟩

/-- Both are made. -/
theorem p_new (w : World) (k : Nat) (h1 : 1 ≤ k) (h2 : k ≤ 4096) : Calls Try.prog 9 #[.int .i64 (k : Int)] w fun e w1 => ∃ b, e = .returned (.tuple #[ptr b, err 0]) ∧ Below w.heap.size w w1 ∧
    Calls Try.prog 10 #[.int .i64 (k : Int)] w1 fun e w2 => ∃ r, e = .returned (.tuple #[ptr r, err 0]) ∧ Pr2 w w2 b r (fresh k) (fresh k) (fun _ => True) ∧ Upto (fresh k) 0 := by
  refine (new_ok k w h1 h2).mono ?_
  rintro e w1 ⟨b, rfl, hd, hb⟩
  refine ⟨b, rfl, hb, (rnew_ok k w1 h1 h2).mono ?_⟩
  rintro e w2 ⟨r, rfl, hr, hb2⟩
  have hz := hb.size
  refine ⟨r, rfl, ⟨_, _, fun _ => False, { dev := hd.below hb2, ref := hr, fo := fun q hq => hq.1, go := fun q hq => by have := hq.1; omega, apart := fun q hf hg => by have := hf.2; have := hg.1; omega, under := hb.trans (hb2.mono hz) }, fun q hq => hq.elim, fun _ _ => trivial⟩, fun k x hx => ?_⟩
  obtain ⟨rfl, _⟩ := fresh_get hx
  exact Nat.le_refl _
end
end Go.Proofs.Ytcpapdpnnlnemaa
