/- The root of nodes that stand one behind the other: the walk of rise; condition: they are a tree's, the pages that are free are none of the root's. -/
import Derived.Test.YtgekeemhbnhelaaGreatM26
import Derived.Test.YtgekeemhbnhelaaGreatM28
namespace Go.Proofs.YtgekeemhbnhelaaGreat
open Go.RowKit

def sliceLen : Value → Nat
  | .slice _ n _ => n
  | _ => 0
/-- What rise answers and leaves. -/
def Rises (w0 : World) (tb db pb fr : Nat) (D : Dv) (ps : List Pg) (wb : Nat) (top : Nd) (i1 : Nat) (BL : List Bytes) (X : List Nat) (S0 F G : Nat → Prop) (tev ttv xv : Value) (n : Nat) (prs : List Pr) (pgs : List Nat) (e : Ending) (w' : World) : Prop :=
  ∃ (i2 : Nat) (BL' : List Bytes) (S' : Nat → Prop) (tv bv : Value), StAt w' tb db pb fr D (tdones (i1 + i2) ps) wb top ⟨placeT ps (i1 + i2), BL ++ BL', X⟩ S' F G tev ttv tv bv xv ∧ Step S0 w0 w' S' ∧ (∀ q, S0 q → S' q) ∧
    (∀ j, j < i1 + i2 → leastFree (tdones j ps) ≠ none) ∧ BL'.length = i2 ∧ (∀ b ∈ BL', b.length = 512) ∧ i2 ≤ mostN n ∧
    ((∃ (root : Int) (pgs' : List Nat), e = .returned (.tuple #[.int .i64 root, err 0]) ∧ Rt (ovr (blkOf D fr) ((placeT ps (i1 + i2)).zip (BL ++ BL'))) ps.length root prs pgs' ∧ pgs'.Perm (pgs ++ placeT (tdones i1 ps) i2)) ∨
     (i2 < mostN n ∧ leastFree (tdones (i1 + i2) ps) = none ∧ e = .returned (.tuple #[.int .i64 0, err 7])))
/-- The loop's state. -/
structure RiAt (w0 : World) (tb db pb fr : Nat) (D : Dv) (ps : List Pg) (wb : Nat) (top : Nd) (i1 : Nat) (BL : List Bytes) (X : List Nat) (S0 F G : Nat → Prop) (tev ttv xv : Value) (n lm : Nat) (P : List Nat) (prs : List Pr) (pgs : List Nat)
    (w : World) (lv : Value) (lvl : Nat) (Ls : List (List En)) (i2 : Nat) (BL' : List Bytes) (S : Nat → Prop) (tv bv : Value) (pg' : List Nat) : Prop where
  st : StAt w tb db pb fr D (tdones (i1 + i2) ps) wb top ⟨placeT ps (i1 + i2), BL ++ BL', X⟩ S F G tev ttv tv bv xv
  stp : Step S0 w0 w S
  inc : ∀ q, S0 q → S q
  rd : Rd kdNd w S lv (Ls.map (mkN lvl))
  free : ∀ j, j < i1 + i2 → leastFree (tdones j ps) ≠ none
  len : BL'.length = i2
  b512 : ∀ b ∈ BL', b.length = 512
  rs : RiseS (ovr (blkOf D fr) ((placeT ps (i1 + i2)).zip (BL ++ BL'))) ps.length lvl Ls prs pg'
  perm : pg'.Perm (pgs ++ placeT (tdones i1 ps) i2)
  out : ∀ q ∈ pg', q ∈ P ∨ q ∈ placeT ps (i1 + i2)
  lev : lvl + Ls.length ≤ lm
  most : i2 + mostN Ls.length ≤ mostN n

set_option maxRecDepth 100000 in
set_option maxHeartbeats 8000000 in
theorem rise_any {w : World} {tb db pb fr : Nat} {D : Dv} {ps : List Pg} {wb : Nat} {top : Nd} {i1 lvl : Nat} {BL : List Bytes} {X P : List Nat} {S F G : Nat → Prop} {tev ttv tv bv xv lv : Value} {Ls : List (List En)} {prs : List Pr} {pgs : List Nat}
    (h : StAt w tb db pb fr D (tdones i1 ps) wb top ⟨placeT ps i1, BL, X⟩ S F G tev ttv tv bv xv) (hl : Rd kdNd w S lv (Ls.map (mkN lvl))) (ho : D.on = true) (ht : TopOk (blkOf D fr) ps.length top P) (hP : ∀ q, ps[q]? = some (false, false) → q ∉ P)
    (hfree : ∀ j, j < i1 → leastFree (tdones j ps) ≠ none) (hBL : BL.length = i1) (hrs : RiseS (ovr (blkOf D fr) ((placeT ps i1).zip BL)) ps.length lvl Ls prs pgs) (hout : ∀ q ∈ pgs, q ∈ P ∨ q ∈ placeT ps i1) (hr : RiseP prs) (hp : ∀ p ∈ prs, PrOk p)
    (hlev : lvl + Ls.length ≤ 4096) (hmost : i1 + mostN Ls.length ≤ 100000) :
    Calls Tryz.prog 59 #[ptr wb, lv] w (Rises w tb db pb fr D ps wb top i1 BL X S F G tev ttv xv Ls.length prs pgs) := by
  have hN := h.tr.pgs.few
  have hN0 := h.tr.pgs.pos
  rw [tdones_length] at hN hN0
  have hstart : RiAt w tb db pb fr D ps wb top i1 BL X S F G tev ttv xv Ls.length (lvl + Ls.length) P prs pgs w lv lvl Ls 0 [] S tv bv pgs :=
    { st := by rw [List.append_nil]; exact h, stp := Step.refl _ _, inc := fun _ h => h, rd := hl, free := hfree, len := rfl, b512 := (fun b hb => by cases hb), rs := by rw [List.append_nil]; exact hrs, perm := by rw [show placeT (tdones i1 ps) 0 = [] from rfl, List.append_nil], out := hout, lev := Nat.le_refl _, most := by omega }
  have HH := Lib.hid (And.intro hstart (And.intro ho (And.intro ht (And.intro hP (And.intro hBL (And.intro hr (And.intro hp (And.intro hlev (And.intro hmost (And.intro hN hN0))))))))))
  clear hstart h hl ho ht hP hfree hBL hrs hout hr hp hlev hmost hN hN0
  obtain ⟨n0, hn0⟩ : ∃ n0, n0 = Ls.length := ⟨_, rfl⟩
  obtain ⟨lm, hlm⟩ : ∃ lm, lm = lvl + Ls.length := ⟨_, rfl⟩
  rw [← hlm, ← hn0] at HH
  rw [← hn0]
  clear hn0 hlm
  go_enter Tryz.func59, Tryz.ntmps59
  go_wp2
  go_loopw [1] (fun lv wr => ∃ lvl Ls i2 BL' S' tv bv pg', RiAt w tb db pb fr D ps wb top i1 BL X S F G tev ttv xv n0 lm P prs pgs wr lv lvl Ls i2 BL' S' tv bv pg') (fun lv _ => sliceLen lv)
  case atStart => exact ⟨_, _, _, _, _, _, _, _, HH.out.1⟩
  case round =>
    obtain ⟨lvl', Ls', i2, BL', S', tv', bv', pg', hR⟩ := hrel
    obtain ⟨la, lc, rfl, _⟩ := hR.rd.shape
    obtain ⟨ln, hln⟩ : ∃ ln, ln = (Ls'.map (mkN lvl')).length := ⟨_, rfl⟩
    rw [← hln] at hR
    rw [← hln]
    have hln2 : ln = Ls'.length := by rw [hln, List.length_map]
    have hlev := hR.lev
    have hmost := hR.most
    have hmle := mostN_le Ls'.length
    have hbl : BL.length = i1 := HH.out.2.2.2.2.1
    have hb512 := hR.len
    by_cases hlt : 1 < ln
    · have hi : (1 : Int) < (ln : Int) := by omega
      have hall := hR.rs.two (by omega)
      have hbig := mostN_big (n := Ls'.length) (by omega)
      have PL := place_any (P := P) hR.st hR.rd HH.out.2.1 (by rw [tdones_length]; exact HH.out.2.2.1) (fun j hj n hn => HH.out.2.2.2.1 n (least_free hn)) (fun n hn => by
          obtain ⟨L, hL, rfl⟩ := List.mem_map.1 hn
          have hok := hall L hL
          exact ⟨hok.1.1, EOk.few hok.1.2.2.2, fun e he => by have := (hok.1.2.2.2 e he).2.2.1; have := HH.out.2.2.2.2.2.2.2.2.2.1; omega, hok.1.2.1, by have := HH.out.2.2.2.2.2.2.2.1; show lvl' ≤ 65535; omega⟩)
        (by have := HH.out.2.2.2.2.2.2.2.2.1; show (placeT ps (i1 + i2)).length ≤ _; rw [placeT_length]; omega) (by have := HH.out.2.2.2.2.2.2.2.2.1; show (BL ++ BL').length ≤ _; rw [List.length_append]; omega) (by have := HH.out.2.2.2.2.2.2.2.2.1; rw [List.length_map]; omega)
      have H1 := Lib.hid (And.intro hR (And.intro hln2 (And.intro hall (And.intro hbig (And.intro hbl hlt)))))
      clear hR hln2 hall hbig hln hlev hmost hmle hbl hb512 hlt
      go_wp2_with fail
      refine PL.mono ?_
      rintro e w2 ⟨n2, S2, tv2, bv2, hf2, h2, st2, in2, (⟨hn2, cv, rfl, hcv⟩ | ⟨hlt2, hnone, rfl⟩)⟩
      · clear PL
        obtain ⟨hR, hln2, hall, hbig, hbl, hlt⟩ := H1.out
        rw [List.length_map] at hn2
        have hf := free_add hR.free hf2
        rw [tdones_add, ← placeT_add, Nat.add_assoc] at h2
        obtain ⟨kids, k1, k2, k3, k4, k5, k6⟩ := rise_up (D := D) (fr := fr) (n := n2) (i := i1 + i2) HH.out.2.2.2.2.2.2.2.2.2.1 HH.out.2.2.2.2.2.2.2.2.2.2 (by rw [List.length_append, hbl, hR.len]) hn2 hf HH.out.2.2.2.1 hR.out hall hR.rs.nb
        obtain ⟨r1, r2, r3⟩ := rise_fill HH.out.2.2.2.2.2.2.2.2.2.1 HH.out.2.2.2.2.2.2.2.2.2.2 k5 HH.out.2.2.2.2.2.1 HH.out.2.2.2.2.2.2.1 k3 (by omega)
        rw [k1] at hcv
        have hm0 := mostN_le Ls'.length
        have FL := filled_any (N := ps.length) (lvl := lvl' + 1) hcv r3 h2.tr.lt (by have h9 := HH.out.2.2.2.2.2.2.2.2.1; have h8 := hR.most; rw [List.length_map]; omega)
        rw [show ((lvl' + 1 : Nat) : Int) = (lvl' : Int) + 1 by omega] at FL
        obtain ⟨L0, hL0⟩ : ∃ L0, Ls'[0]? = some L0 := ⟨_, List.getElem?_eq_getElem (by omega)⟩
        have hr2 := hR.rd.step st2
        obtain ⟨g, o, cap, xa, xc, ya, yc, e0, hg, c0, c1, c2, c3, _, _⟩ := hr2.nod (i := 0) (n := mkN lvl' L0) (by rw [List.getElem?_map, hL0]; rfl)
        simp only [Value.slice.injEq] at e0
        obtain ⟨rfl, -, rfl⟩ := e0
        rw [Nat.zero_mul, Nat.add_zero] at c1
        replace c1 : w2.cell? ⟨g, o + 1, none⟩ = some (.int .i64 (lvl' : Int)) := c1
        have hw1 : IntKind.i64.wrap ((lvl' : Int) + 1) = (lvl' : Int) + 1 := IntWalk.i64_in _ (by have h9 := HH.out.2.2.2.2.2.2.2.1; have h8 := hR.lev; omega)
        have hpos : (0 : Int) < (ln : Int) := by omega
        obtain ⟨cva, cvc, rfl, _⟩ := hcv.shape
        obtain ⟨kn, hkn⟩ : ∃ kn, kn = (kids.map kidE).length := ⟨_, rfl⟩
        rw [← hkn] at FL
        rw [← hkn]
        have H2 := Lib.hid (And.intro h2 (And.intro st2 (And.intro in2 (And.intro hn2 (And.intro hf (And.intro k2 (And.intro k4 (And.intro k6 (And.intro r1 r2)))))))))
        clear h2 st2 in2 hn2 hf hf2 k1 k2 k3 k4 k5 k6 r1 r2 r3 hcv hr2 c0 c2 c3 hR hln2 hall hbig hbl hlt hkn hm0 hL0
        go_wp2_with fail
        refine FL.mono ?_
        rintro e w3 ⟨v3, rfl, hr3, hb3⟩
        clear FL c1
        obtain ⟨v3a, v3c, rfl, _⟩ := hr3.shape
        obtain ⟨n3, hn3⟩ : ∃ n3, n3 = ((shareL (lvl' + 1) (fillL (lvl' + 1) (kids.map kidE))).map (mkN (lvl' + 1))).length := ⟨_, rfl⟩
        rw [← hn3]
        rw [← hn3] at hr3
        have H3 := Lib.hid (And.intro hr3 (And.intro hb3 hn3))
        clear hr3 hb3 hn3
        go_wp2
        obtain ⟨hR, hln2, hall, hbig, hbl, hlt⟩ := H1.out
        obtain ⟨h2, st2, in2, hn2, hf, k2, k4, k6, r1, r2⟩ := H2.out
        obtain ⟨hr3, hb3, hn3⟩ := H3.out
        have hB3 : (placeB (Ls'.map (mkN lvl')) n2).length = n2 := placeB_length (by rw [List.length_map]; omega)
        rw [List.append_assoc] at r1
        rw [Nat.add_assoc] at r1 k6 hf
        refine ⟨⟨lvl' + 1, _, i2 + n2, BL' ++ placeB (Ls'.map (mkN lvl')) n2, S2, tv2, bv2, kids.flatMap Sb.pgs, {
          st := by rw [List.append_assoc] at h2; exact h2.below hb3, stp := (hR.stp.trans st2).bel hb3, inc := fun q hq => in2 q (hR.inc q hq), rd := hr3, free := hf, len := by rw [List.length_append, hR.len, hB3]
          b512 := fun b hb => (List.mem_append.1 hb).elim (hR.b512 b) (placeB_512 hall n2 b), rs := r1, perm := ?_, out := k6, lev := ?_, most := ?_ }⟩, ?_⟩
        · refine k4.trans ?_
          rw [placeT_add, tdones_add, ← List.append_assoc]
          exact hR.perm.append_right _
        · have := hR.lev
          omega
        · have h8 := hR.most
          have h9 := mostN_mono _ _ _ (Nat.le_refl _) (show (shareL (lvl' + 1) (fillL (lvl' + 1) (kids.map kidE))).length ≤ 2 * (Ls'.length * 38) / 503 + 1 by rw [k2, hn2] at r2; exact r2)
          omega
        · show n3 < ln
          rw [hn3, List.length_map]
          omega
      · clear PL
        have H2 := Lib.hid (And.intro hf2 (And.intro h2 (And.intro st2 (And.intro in2 (And.intro hlt2 hnone)))))
        clear hf2 h2 st2 in2 hlt2 hnone
        go_wp2
        go_ret2
        obtain ⟨hR, hln2, hall, hbig, hbl, hlt⟩ := H1.out
        obtain ⟨hf2, h2, st2, in2, hlt2, hnone⟩ := H2.out
        rw [List.length_map] at hlt2
        have hf := free_add hR.free hf2
        rw [tdones_add, ← placeT_add, Nat.add_assoc, List.append_assoc] at h2
        rw [tdones_add, Nat.add_assoc] at hnone
        rw [Nat.add_assoc] at hf
        have hm0 := mostN_le Ls'.length
        have h8 := hR.most
        have hB3 : (placeB (Ls'.map (mkN lvl')) n2).length = n2 := placeB_length (by rw [List.length_map]; omega)
        exact ⟨i2 + n2, BL' ++ placeB (Ls'.map (mkN lvl')) n2, S2, tv2, bv2, h2, hR.stp.trans st2, fun q hq => in2 q (hR.inc q hq), hf, by rw [List.length_append, hR.len, hB3], fun b hb => (List.mem_append.1 hb).elim (hR.b512 b) (placeB_512 hall n2 b), by omega, .inr ⟨by omega, hnone, rfl⟩⟩
    · have hi : ¬ (1 : Int) < (ln : Int) := by omega
      rcases Ls' with _ | ⟨L, _ | ⟨L2, r⟩⟩
      · have h0 : ln = 0 := hln2
        subst h0
        have H1 := Lib.hid hR
        clear hR hln hln2 hlev hmost hmle hbl hb512 hlt
        go_wp2
        go_ret2
        have hR := H1.out
        have h8 := hR.most
        exact ⟨i2, BL', S', tv', bv', hR.st, hR.stp, hR.inc, hR.free, hR.len, hR.b512, by omega, .inl ⟨-1, pg', rfl, rise_none hR.rs, hR.perm⟩⟩
      · have h1 : ln = 1 := hln2
        subst h1
        obtain ⟨g, o, cap, xa, xc, ya, yc, e0, hg, c0, c1, c2, c3, hxe, hye⟩ := hR.rd.nod (i := 0) (n := mkN lvl' L) rfl
        simp only [Value.slice.injEq] at e0
        obtain ⟨rfl, -, rfl⟩ := e0
        rw [Nat.zero_mul, Nat.add_zero] at c0 c1 c2 c3
        replace c0 : wr.cell? ⟨g, o, none⟩ = some (.int .i64 0) := c0
        replace c1 : wr.cell? ⟨g, o + 1, none⟩ = some (.int .i64 (lvl' : Int)) := c1
        replace c2 : wr.cell? ⟨g, o + 2, none⟩ = some (.slice xa L.length xc) := c2
        replace c3 : wr.cell? ⟨g, o + 3, none⟩ = some (.slice ya 0 yc) := c3
        replace hxe : Rd kdEn wr S' (.slice xa L.length xc) L := hxe
        obtain ⟨lb, hlb⟩ : ∃ lb, lb = loneB lvl' L.length := ⟨_, rfl⟩
        have LO := lone_any (p := 0) (lvl := lvl') (tv := .slice ya 0 yc) wr hxe
        rw [← hlb] at LO
        obtain ⟨xn, hxn⟩ : ∃ xn, xn = L.length := ⟨_, rfl⟩
        rw [← hxn] at LO hxe c2
        have hxpos : 0 < xn := by rw [hxn]; exact List.length_pos_iff.2 (hR.rs.ok L (by simp)).1
        have hx0 : (0 : Int) < (xn : Int) := by omega
        have H1 := Lib.hid (And.intro hR (And.intro hlb (And.intro hxe (And.intro hxn (And.intro hbl hxpos)))))
        clear hR hln hln2 hlev hmost hmle hbl hb512 hlt hlb hxe hxn hye hxpos
        go_wp2_with fail
        refine LO.mono ?_
        rintro e w2 ⟨rfl, hb2⟩
        clear LO
        have d2 : w2.cell? ⟨g, o + 2, none⟩ = some (.slice xa xn xc) := (hb2.cell (p := ⟨g, o + 2, none⟩) hg).trans c2
        clear c0 c1 c2 c3
        obtain ⟨hR, hlb, hxe, hxn, hbl, hxpos⟩ := H1.out
        cases lb with
        | true =>
          obtain ⟨e, he, hrt⟩ := rise_lone hR.rs hlb.symm (by have := hR.lev; have := HH.out.2.2.2.2.2.2.2.1; omega) HH.out.2.2.2.2.2.1
          obtain ⟨g2, o2, cap2, ka, kc, va, vc, e0, hg2, k0, k1, k2, _, _⟩ := (hxe.step (Step.of_below hb2 _)).ent he
          simp only [Value.slice.injEq] at e0
          obtain ⟨rfl, -, rfl⟩ := e0
          rw [Nat.zero_mul, Nat.add_zero] at k2
          have H2 := Lib.hid (And.intro hb2 hrt)
          clear hR hlb hxe hxn hbl hxpos hb2 k0 k1 he hrt
          go_wp2
          go_ret2
          obtain ⟨hR, hlb, hxe, hxn, hbl, hxpos⟩ := H1.out
          obtain ⟨hb2, hrt⟩ := H2.out
          have h8 := hR.most
          exact ⟨i2, BL', S', tv', bv', hR.st.below hb2, hR.stp.bel hb2, hR.inc, hR.free, hR.len, hR.b512, by omega, .inl ⟨_, pg', rfl, hrt, hR.perm⟩⟩
        | false =>
          have hnd := rise_alone hR.rs hlb.symm
          have hm1 : mostN [L].length = 1 := mostN_small (Nat.le_refl 1)
          have hmost : i2 + 1 ≤ mostN n0 := by have := hR.most; rw [hm1] at this; exact this
          have hlev : lvl' + 1 ≤ lm := hR.lev
          have hb512 := hR.len
          have hall : ∀ L' ∈ [L], NdOk ps.length lvl' L' := fun L' hL' => by rw [List.mem_singleton.1 hL']; exact hnd
          have PL := place_any (P := P) (hR.st.below hb2) (hR.rd.step (Step.of_below hb2 _)) HH.out.2.1 (by rw [tdones_length]; exact HH.out.2.2.1) (fun j hj n hn => HH.out.2.2.2.1 n (least_free hn)) (fun n hn => by
                obtain ⟨L, hL, rfl⟩ := List.mem_map.1 hn
                have hok := hall L hL
                exact ⟨hok.1.1, EOk.few hok.1.2.2.2, fun e he => by have := (hok.1.2.2.2 e he).2.2.1; have := HH.out.2.2.2.2.2.2.2.2.2.1; omega, hok.1.2.1, by have := HH.out.2.2.2.2.2.2.2.1; show lvl' ≤ 65535; omega⟩)
              (by have := HH.out.2.2.2.2.2.2.2.2.1; show (placeT ps (i1 + i2)).length ≤ _; rw [placeT_length]; omega) (by have := HH.out.2.2.2.2.2.2.2.2.1; show (BL ++ BL').length ≤ _; rw [List.length_append]; omega) (by show ([L].map (mkN lvl')).length ≤ _; simp)
          have H2 := Lib.hid (And.intro hb2 (And.intro hall hm1))
          clear hR hlb hxe hxn hbl hxpos hb2 hnd hmost hlev hb512 hm1 hall d2
          go_wp2_with fail
          refine PL.mono ?_
          rintro e w3 ⟨n2, S2, tv2, bv2, hf2, h2, st2, in2, (⟨hn2, cv, rfl, hcv⟩ | ⟨hlt2, hnone, rfl⟩)⟩
          · clear PL
            obtain ⟨hR, hlb, hxe, hxn, hbl, hxpos⟩ := H1.out
            obtain ⟨hb2, hall, hm1⟩ := H2.out
            replace hn2 : n2 = 1 := hn2
            subst hn2
            have hf := free_add hR.free hf2
            rw [tdones_add, ← placeT_add, Nat.add_assoc, List.append_assoc] at h2
            obtain ⟨kids, k1, k2, k3, k4, k5, k6⟩ := rise_up (D := D) (fr := fr) (n := 1) (i := i1 + i2) HH.out.2.2.2.2.2.2.2.2.2.1 HH.out.2.2.2.2.2.2.2.2.2.2 (by rw [List.length_append, hbl, hR.len]) rfl hf HH.out.2.2.2.1 hR.out hall hR.rs.nb
            obtain ⟨k, rfl⟩ := List.length_eq_one_iff.1 k2
            rw [k1] at hcv
            obtain ⟨g2, o2, cap2, ka, kc, va, vc, e0, hg2, d0, d1, d2, _, _⟩ := hcv.ent (i := 0) (e := kidE k) rfl
            obtain ⟨kn, hkn⟩ : ∃ kn : Nat, kn = 1 := ⟨_, rfl⟩
            replace e0 : cv = .slice (some ⟨g2, o2, none⟩) 1 cap2 := e0
            rw [← hkn] at e0
            subst e0
            have hkp0 : (0 : Int) < (kn : Int) := by omega
            clear hkn
            rw [Nat.zero_mul, Nat.add_zero] at d2
            replace d2 : w3.cell? ⟨g2, o2 + 2, none⟩ = some (.int .i64 (k.page : Nat)) := d2
            have H3 := Lib.hid (And.intro h2 (And.intro st2 (And.intro in2 (And.intro hf (And.intro k3 (And.intro k4 k5))))))
            clear h2 st2 in2 hf hf2 k1 k2 k3 k4 k5 k6 hcv d0 d1 hR hlb hxe hxn hbl hxpos hb2 hall hm1 hi hx0
            have d3 := d2
            obtain ⟨kp, hkp⟩ : ∃ kp : Int, kp = (k.page : Int) := ⟨_, rfl⟩
            rw [← hkp] at d3
            have HK := Lib.hid hkp
            clear d2 hkp
            go_wp2
            go_ret2
            obtain ⟨hR, hlb, hxe, hxn, hbl, hxpos⟩ := H1.out
            obtain ⟨hb2, hall, hm1⟩ := H2.out
            obtain ⟨h2, st2, in2, hf, k3, k4, k5⟩ := H3.out
            have h8 : i2 + 1 ≤ mostN n0 := by have := hR.most; rw [hm1] at this; exact this
            rw [Nat.add_assoc] at hf
            rw [List.append_assoc, Nat.add_assoc] at k5
            have hB3 : (placeB ([L].map (mkN lvl')) 1).length = 1 := placeB_length (by simp)
            refine ⟨i2 + 1, BL' ++ placeB ([L].map (mkN lvl')) 1, S2, tv2, bv2, h2, (hR.stp.bel hb2).trans st2, fun q hq => in2 q (hR.inc q hq), hf, by rw [List.length_append, hR.len, hB3], fun b hb => (List.mem_append.1 hb).elim (hR.b512 b) (placeB_512 hall 1 b), h8, .inl ⟨_, [k].flatMap Sb.pgs, rfl, ⟨.inr ⟨lvl', k, k5 k (by simp), HK.out, by rw [k3]; simp, by simp, by have h5 : lvl' + 1 ≤ lm := hR.lev; have := HH.out.2.2.2.2.2.2.2.1; omega⟩, HH.out.2.2.2.2.2.1⟩, ?_⟩⟩
            refine k4.trans ?_
            rw [placeT_add, tdones_add, ← List.append_assoc]
            exact hR.perm.append_right _
          · clear PL
            have H3 := Lib.hid (And.intro hf2 (And.intro h2 (And.intro st2 (And.intro in2 (And.intro hlt2 hnone)))))
            clear hf2 h2 st2 in2 hlt2 hnone
            go_wp2
            go_ret2
            obtain ⟨hR, hlb, hxe, hxn, hbl, hxpos⟩ := H1.out
            obtain ⟨hb2, hall, hm1⟩ := H2.out
            obtain ⟨hf2, h2, st2, in2, hlt2, hnone⟩ := H3.out
            have hn2 : n2 = 0 := by have : n2 < 1 := hlt2; omega
            subst hn2
            have hf := free_add hR.free hf2
            rw [tdones_add, ← placeT_add, Nat.add_assoc, List.append_assoc] at h2
            rw [tdones_add, Nat.add_assoc] at hnone
            rw [Nat.add_assoc] at hf
            have h8 : i2 + 1 ≤ mostN n0 := by have := hR.most; rw [hm1] at this; exact this
            have hB3 : (placeB ([L].map (mkN lvl')) 0).length = 0 := placeB_length (by simp)
            exact ⟨i2 + 0, BL' ++ placeB ([L].map (mkN lvl')) 0, S2, tv2, bv2, h2, (hR.stp.bel hb2).trans st2, fun q hq => in2 q (hR.inc q hq), hf, by rw [List.length_append, hR.len, hB3], fun b hb => (List.mem_append.1 hb).elim (hR.b512 b) (placeB_512 hall 0 b), by omega, .inr ⟨by omega, hnone, rfl⟩⟩
      · exact absurd hlt (by rw [hln2]; simp)
end Go.Proofs.YtgekeemhbnhelaaGreat
