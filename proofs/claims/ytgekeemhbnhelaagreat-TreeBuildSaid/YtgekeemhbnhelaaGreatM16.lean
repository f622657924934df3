/- Whether a page stands in a tree: a page that is none of it does not; condition: the tree is whole. · What a call does to the pages, as it lies in memory: the tree, its device and pages, what was taken, what is to be written there, what is left; no condition. · A page that the root has not: the walk of take; condition: the root's tree is whole, its pages are none of the free ones. -/
import Derived.Test.YtgekeemhbnhelaaGreatM15
import Derived.Test.YtgekeemhbnhelaaGreatM03
namespace Go.Proofs.YtgekeemhbnhelaaGreat
open Go.RowKit

/-- How high a node stands, by what lies in memory. -/
def mLv (g : Nat) (w : World) : Nat := match w.cell? ⟨g, 1, none⟩ with | some v => (intOf v).toNat | none => 0
theorem mLv_of {g l : Nat} {w : World} (h : w.cell? ⟨g, 1, none⟩ = some (.int .i64 (l : Int))) : mLv g w = l := by
  unfold mLv
  rw [h]
  simp [intOf]

theorem has_none {tb : Nat} {ev tv : Value} {l : Int} (k : Nat) (w : World) : Calls Tryz.prog 132 #[ptr tb, ndv (-1) l ev tv, .int .i64 (k : Int)] w fun e w' => e = .returned (.bool false) ∧ Below w.heap.size w w' := by
  have hb0 : Below w.heap.size w (w.alloc (.cells #[.int .i64 (-1), .int .i64 l, ev, tv] 85)) := (Below.refl _ _).alloc (Nat.le_refl _) _
  have HB := Lib.hid hb0
  clear hb0
  go_enter Tryz.func132, Tryz.ntmps132
  go_wp2
  go_ret
  exact ⟨rfl, HB.out⟩

/-- A node that is no way to page k, in a block. -/
structure HasR (S : Nat → Prop) (B : Nat → Bytes) (N k nb : Nat) (wr : World) (l : Nat) (pg : Nat) (es : List En) (to : Bytes) (prs : List Pr) (pgs : List Nat) (ev tv : Value) : Prop where
  cel : Cel wr nb [.int .i64 (pg : Int), .int .i64 (l : Int), ev, tv] 85
  rd : Rd kdEn wr S ev es
  ends : Bsf wr S tv to
  held : Nb B N l es prs pgs
  ok : NdOk N l es
  rise : RiseP prs
  und : Under prs to
  ne : pg ≠ k
  out : k ∉ pgs
  few : l ≤ 4096

set_option maxRecDepth 100000 in
set_option maxHeartbeats 2000000 in
theorem has_node {tb db pb fr : Nat} {D : Dv} {ps : List Pg} {S : Nat → Prop} {ev tv : Value} {es : List En} {to : Bytes} {l pg k : Nat} {prs : List Pr} {pgs : List Nat} (w : World) (h : TrS w tb db pb fr D ps S) (ho : D.on = true)
    (he : Rd kdEn w S ev es) (ht : Bsf w S tv to) (hnb : Nb (blkOf D fr) ps.length l es prs pgs) (hok : NdOk ps.length l es) (hr : RiseP prs) (hu : Under prs to) (hne : pg ≠ k) (hk : k ∉ pgs) (hkl : k < ps.length) (hl : l ≤ 4096) :
    Calls Tryz.prog 132 #[ptr tb, ndv (pg : Int) (l : Int) ev tv, .int .i64 (k : Int)] w fun e w' => e = .returned (.bool false) ∧ Below w.heap.size w w' := by
  have hb0 : Below w.heap.size w (w.alloc (.cells #[.int .i64 (pg : Int), .int .i64 (l : Int), ev, tv] 85)) := (Below.refl _ _).alloc (Nat.le_refl _) _
  have C0 : Cel (w.alloc (.cells #[.int .i64 (pg : Int), .int .i64 (l : Int), ev, tv] 85)) w.heap.size [.int .i64 (pg : Int), .int .i64 (l : Int), ev, tv] 85 := Cel.new w _ _
  have hTS := (h.below hb0).more (S' := fun q => S q ∨ q = w.heap.size) (fun q h => .inl h) (fun q hq => hq.elim ((h.below hb0).lt q) (fun e => by rw [e]; exact C0.lt)) (fun hq => hq.elim h.tlt.2 (fun e => by have := h.tlt.1; omega))
  have R := tread_any _ hTS ho k hkl
  obtain ⟨ea, ec, rfl, _⟩ := he.shape
  obtain ⟨ta, tc, rfl, _⟩ := ht.1.shape
  have hni : ((pg : Int) == -1) = false := by rw [beq_eq_false_iff_ne]; omega
  have HH := Lib.hid (And.intro h (And.intro he (And.intro ht (And.intro hnb (And.intro hok (And.intro hr (And.intro hu (And.intro hne (And.intro hk (And.intro hb0 (And.intro C0 hTS)))))))))))
  clear h he ht hnb hok hr hu hne hk hb0 C0 hTS
  go_enter Tryz.func132, Tryz.ntmps132
  go_wp2_with fail
  refine R.mono ?_
  rintro e w1 ⟨nv, r, rfl, hs, hn, hb1⟩
  clear R
  obtain ⟨h, he, ht, hnb, hok, hr, hu, hne, hk, hb0, C0, hTS⟩ := HH.out
  have hbw := hb0.trans (hb1.mono hb0.size)
  have C1 := C0.below hb1 C0.lt
  have hz1 := C1.lt
  rcases r with _ | ⟨ol, oes⟩
  · obtain ⟨oa, oc, da, dc, rfl, hoe, hod⟩ := hn
    have HB := Lib.hid hbw
    clear h he ht hnb hok hr hu hne hk hb0 C0 hTS hbw C1 hoe hod hb1
    simp only [Option.isSome]
    go_wp2
    go_loopw [8] (fun e wr => e = err 9 ∧ Below w.heap.size w wr) (fun _ _ => 0)
    case atStart => exact ⟨rfl, HB.out.alloc HB.out.size _⟩
    case round =>
      obtain ⟨rfl, hb2⟩ := hrel
      go_wp2
      go_ret
      exact ⟨rfl, hb2⟩
  · obtain ⟨oa, oc, da, dc, rfl, hoe, hod⟩ := hn
    have hbc : Below w1.heap.size w1 (w1.alloc (.cells #[.int .i64 (k : Int), .int .i64 (ol : Int), .slice oa oes.length oc, .slice da 0 dc] 85)) := (Below.refl _ _).alloc (Nat.le_refl _) _
    have CO : Cel (w1.alloc (.cells #[.int .i64 (k : Int), .int .i64 (ol : Int), .slice oa oes.length oc, .slice da 0 dc] 85)) w1.heap.size [.int .i64 (k : Int), .int .i64 (ol : Int), .slice oa oes.length oc, .slice da 0 dc] 85 := Cel.new w1 _ _
    have hoes : oes ≠ [] := hs.2.2.2.2.2.1
    have hol : ol < 65536 := by
      rw [hs.2.2.2.1]
      have := beNat_lt ((openV (blkOf D fr k)).2.1.take 2)
      have h2 : ((openV (blkOf D fr k)).2.1.take 2).length ≤ 2 := by rw [List.length_take]; exact Nat.min_le_left _ _
      exact Nat.lt_of_lt_of_le this (Nat.pow_le_pow_right (by decide) h2)
    have hstart : HasR (fun q => S q ∨ q = w.heap.size) (blkOf D fr) ps.length k w.heap.size (w1.alloc (.cells #[.int .i64 (k : Int), .int .i64 (ol : Int), .slice oa oes.length oc, .slice da 0 dc] 85)) l pg es to prs pgs (.slice ea es.length ec) (.slice ta to.length tc) := by
      have st : Step S w (w1.alloc (.cells #[.int .i64 (k : Int), .int .i64 (ol : Int), .slice oa oes.length oc, .slice da 0 dc] 85)) (fun q => S q ∨ q = w.heap.size) := ⟨Only.of_below (hbw.alloc hbw.size _) S, fun q hq => hq.elim .inl fun e => .inr (by omega)⟩
      exact ⟨C1.alloc _, he.step st, ht.step st, hnb, hok, hr, hu, hne, hk, hl⟩
    have hbw2 := hbw.alloc hbw.size (.cells #[.int .i64 (k : Int), .int .i64 (ol : Int), .slice oa oes.length oc, .slice da 0 dc] 85)
    have hoe2 := hoe.step (Step.of_below hbc (fun q => S q ∨ q = w.heap.size))
    have hltw : w.heap.size < (w1.alloc (.cells #[.int .i64 (k : Int), .int .i64 (ol : Int), .slice oa oes.length oc, .slice da 0 dc] 85)).heap.size := Nat.lt_of_lt_of_le hz1 hbc.size
    have H1 := Lib.hid (And.intro hstart (And.intro hbw2 (And.intro CO (And.intro hoe2 (And.intro hoes (And.intro h hltw))))))
    clear h he ht hnb hok hr hu hne hk hb0 C0 hTS hbw C1 hoe hod hb1 hbc CO hoes hstart hbw2 hoe2 hs HH hltw
    simp only [Option.isSome]
    go_wp2
    go_loopw [8] (fun e wr => e = err 0 ∧ (∃ l pg es to prs pgs ev tv, HasR (fun q => S q ∨ q = w.heap.size) (blkOf D fr) ps.length k w.heap.size wr l pg es to prs pgs ev tv) ∧ Below w.heap.size w wr ∧
      Step (fun q => q = w.heap.size) (w1.alloc (.cells #[.int .i64 (k : Int), .int .i64 (ol : Int), .slice oa oes.length oc, .slice da 0 dc] 85)) wr (fun q => q = w.heap.size)) (fun _ wr => mLv w.heap.size wr)
    case atStart => exact ⟨rfl, ⟨_, _, _, _, _, _, _, _, H1.out.1⟩, H1.out.2.1, Step.refl _ _⟩
    case round =>
      obtain ⟨rfl, ⟨l', pg', es', to', prs', pgs', ev', tv', hR⟩, hbr, hst⟩ := hrel
      obtain ⟨ea', ec', rfl, _⟩ := hR.rd.shape
      obtain ⟨ta', tc', rfl, _⟩ := hR.ends.1.shape
      have COr : Cel wr w1.heap.size [.int .i64 (k : Int), .int .i64 (ol : Int), .slice oa oes.length oc, .slice da 0 dc] 85 := H1.out.2.2.1.only hst.only (by omega)
      have n1 : wr.cell? ⟨w.heap.size, 1, none⟩ = some (.int .i64 (l' : Int)) := hR.cel.cell 1
      have o1 : wr.cell? ⟨w1.heap.size, 1, none⟩ = some (.int .i64 (ol : Int)) := COr.cell 1
      by_cases hgo : ol < l'
      · obtain ⟨m, rfl⟩ : ∃ m, l' = m + 1 := ⟨l' - 1, by omega⟩
        obtain ⟨kids, rfl, rfl, rfl, hsub⟩ := Nb.succ.1 hR.held
        obtain ⟨lm, hlm⟩ : ∃ lm : Int, lm = (m : Int) + 1 := ⟨_, rfl⟩
        obtain ⟨en', hen⟩ : ∃ en', en' = (kids.map kidE).length := ⟨_, rfl⟩
        have hcel : Cel wr w.heap.size [.int .i64 (pg' : Int), .int .i64 lm, .slice ea' en' ec', .slice ta' to'.length tc'] 85 := by
          rw [hlm, hen]
          exact hR.cel
        have hoes := H1.out.2.2.2.2.1
        obtain ⟨a0, r0, hoe0⟩ : ∃ a0 r0, oes = a0 :: r0 := List.exists_cons_of_ne_nil hoes
        have ho0 : oes[0]? = some a0 := by rw [hoe0]; rfl
        have hord : Rd kdEn wr (fun q => S q ∨ q = w.heap.size) (.slice oa oes.length oc) oes := H1.out.2.2.2.1.step ⟨hst.only.mono fun _ _ e => .inr e, fun q hq => .inl hq⟩
        have hzr : w1.heap.size < wr.heap.size := COr.lt
        have hzn : w.heap.size < wr.heap.size := hcel.lt
        have hd1 : Below wr.heap.size wr wr.drew := (Below.refl _ _).drew
        have FF : ∀ W, Below wr.heap.size wr W → W.cell? ⟨w.heap.size, 0, none⟩ = some (.int .i64 (pg' : Int)) ∧ W.cell? ⟨w.heap.size, 1, none⟩ = some (.int .i64 lm) ∧ W.cell? ⟨w.heap.size, 2, none⟩ = some (.slice ea' en' ec') ∧ W.cell? ⟨w.heap.size, 3, none⟩ = some (.slice ta' to'.length tc') ∧ W.cell? ⟨w1.heap.size, 0, none⟩ = some (.int .i64 (k : Int)) ∧ W.cell? ⟨w1.heap.size, 1, none⟩ = some (.int .i64 (ol : Int)) ∧ W.cell? ⟨w1.heap.size, 2, none⟩ = some (.slice oa oes.length oc) ∧ W.cell? ⟨w1.heap.size, 3, none⟩ = some (.slice da 0 dc) := fun W hb =>
          ⟨(hb.cell (p := ⟨w.heap.size, 0, none⟩) hzn).trans (hcel.cell 0), (hb.cell (p := ⟨w.heap.size, 1, none⟩) hzn).trans (hcel.cell 1), (hb.cell (p := ⟨w.heap.size, 2, none⟩) hzn).trans (hcel.cell 2), (hb.cell (p := ⟨w.heap.size, 3, none⟩) hzn).trans (hcel.cell 3),
            (hb.cell (p := ⟨w1.heap.size, 0, none⟩) hzr).trans (COr.cell 0), (hb.cell (p := ⟨w1.heap.size, 1, none⟩) hzr).trans (COr.cell 1), (hb.cell (p := ⟨w1.heap.size, 2, none⟩) hzr).trans (COr.cell 2), (hb.cell (p := ⟨w1.heap.size, 3, none⟩) hzr).trans (COr.cell 3)⟩
        have hlt : w.heap.size < w1.heap.size := by omega
        have hTS : TrS wr tb db pb fr D ps (fun q => S q ∨ q = w.heap.size) := (H1.out.2.2.2.2.2.1.below hbr).more (fun q h => .inl h) (fun q hq => hq.elim ((H1.out.2.2.2.2.2.1.below hbr).lt q) (fun e => by rw [e]; exact hzn)) (fun hq => hq.elim H1.out.2.2.2.2.2.1.tlt.2 (fun e => by have := H1.out.2.2.2.2.2.1.tlt.1; omega))
        have LL := least_any (p := (k : Int)) (l := (ol : Int)) (tv := .slice da 0 dc) wr.drew (hord.step (Step.of_below hd1 _)) ho0
        have hlen := hR.ok.1.few
        have WW := fun (W : World) (hb : Below wr.heap.size wr W) (kv : Value) (hkv : Bs W kv a0.key) => way_any (p := (pg' : Int)) (l := lm) (tv := .slice ta' to'.length tc') W (hR.rd.step (Step.of_below hb _)) hkv hR.ok.1.2.2.1 (by omega)
        have hwl := way_lt hR.ok.1.1 a0.key
        obtain ⟨kd, hkd⟩ : ∃ kd, kids[way (kids.map kidE) a0.key]? = some kd := ⟨_, List.getElem?_eq_getElem (by simpa using hwl)⟩
        obtain ⟨ces, cpg, g1, g2, g3, g4, g5, g6, g7, g8, g9, g10⟩ := kid_facts hsub hR.rise hR.und hkd
        have hmf := hR.few
        have CC := fun (W : World) (hb : Below wr.heap.size wr W) => child_any (p := (pg' : Int)) W hlm (hTS.below hb) ho (hR.rd.step (Step.of_below hb _)) (hR.ends.step (Step.of_below hb _)) g6 g5 (by omega) g1 g2 g7 g8
        rw [← hen] at WW CC
        have hi1 : (ol : Int) < lm := by omega
        have n1' := (FF wr (Below.refl _ _)).2.1
        have HX := Lib.hid (fun (W : World) (hW : W.cell? ⟨w.heap.size, 0, none⟩ = some (.int .i64 (pg' : Int)) ∧ W.cell? ⟨w.heap.size, 1, none⟩ = some (.int .i64 lm) ∧ W.cell? ⟨w.heap.size, 2, none⟩ = some (.slice ea' en' ec') ∧ W.cell? ⟨w.heap.size, 3, none⟩ = some (.slice ta' to'.length tc') ∧ W.cell? ⟨w1.heap.size, 0, none⟩ = some (.int .i64 (k : Int)) ∧ W.cell? ⟨w1.heap.size, 1, none⟩ = some (.int .i64 (ol : Int)) ∧ W.cell? ⟨w1.heap.size, 2, none⟩ = some (.slice oa oes.length oc) ∧ W.cell? ⟨w1.heap.size, 3, none⟩ = some (.slice da 0 dc)) => hW)
        have HF := Lib.hid (And.intro FF (And.intro LL (And.intro WW CC)))
        have hin : ∀ q ∈ kd.pgs, q ∈ kids.flatMap Sb.pgs := fun q hq => List.mem_flatMap.2 ⟨kd, List.mem_of_getElem? hkd, hq⟩
        have hout := hR.out
        have H2 := Lib.hid (And.intro hcel (And.intro hbr (And.intro hst (And.intro g1 (And.intro g3 (And.intro g9 (And.intro g10 (And.intro (show kd.page ≠ k from fun e => hout (hin k (by rw [g4, ← e]; exact List.mem_cons_self))) (And.intro (show k ∉ cpg from fun e => hout (hin k (by rw [g4]; exact List.mem_cons_of_mem _ e))) (And.intro (show m ≤ 4096 by omega) hlm))))))))))
        clear hR hcel hord FF hTS LL WW CC g1 g2 g3 g4 g5 g6 g7 g8 g9 g10 hin hout hst hbr COr ho0 hoe0 hoes hsub hkd hen hlm hwl hgo n1
        generalize way (kids.map kidE) a0.key = wy at *
        have hS0 := HF.out.1 _ hd1
        go_wp2_with fail
        refine region_upto 10 (fun W => W.cell? ⟨w.heap.size, 0, none⟩ = some (.int .i64 (pg' : Int)) ∧ W.cell? ⟨w.heap.size, 1, none⟩ = some (.int .i64 lm) ∧ W.cell? ⟨w.heap.size, 2, none⟩ = some (.slice ea' en' ec') ∧ W.cell? ⟨w.heap.size, 3, none⟩ = some (.slice ta' to'.length tc') ∧ W.cell? ⟨w1.heap.size, 0, none⟩ = some (.int .i64 (k : Int)) ∧ W.cell? ⟨w1.heap.size, 1, none⟩ = some (.int .i64 (ol : Int)) ∧ W.cell? ⟨w1.heap.size, 2, none⟩ = some (.slice oa oes.length oc) ∧ W.cell? ⟨w1.heap.size, 3, none⟩ = some (.slice da 0 dc)) (by kernel_rfl) hS0 (fun hS => ?_)
        refine take_upto (i := 0) (some 28) (ptr tb) rfl rfl (by kernel_rfl) (by kernel_rfl) (by kernel_rfl) (by kernel_rfl) (by kernel_rfl) (by decide) (fun _ _ _ h => h) (by rfl) (fun W hW => ?_) hS ?_
        · have hx := HX.out W hW
          clear hW
          go_simp
        simp only [Act.put, List.setIfInBounds_toArray, List.set_cons_zero, List.set_cons_succ]
        refine take_upto (i := 1) (some 29) (ndv (pg' : Int) lm (.slice ea' en' ec') (.slice ta' to'.length tc')) rfl rfl (by kernel_rfl) (by kernel_rfl) (by kernel_rfl) (by kernel_rfl) (by kernel_rfl) (by decide) (fun _ _ _ h => h) (by rfl) (fun W hW => ?_) hS ?_
        · have hx := HX.out W hW
          clear hW
          go_simp
        simp only [Act.put, List.setIfInBounds_toArray, List.set_cons_zero, List.set_cons_succ]
        refine take_upto (i := 2) (some 30) (ndv (pg' : Int) lm (.slice ea' en' ec') (.slice ta' to'.length tc')) rfl rfl (by kernel_rfl) (by kernel_rfl) (by kernel_rfl) (by kernel_rfl) (by kernel_rfl) (by decide) (fun _ _ _ h => h) (by rfl) (fun W hW => ?_) hS ?_
        · have hx := HX.out W hW
          clear hW
          go_simp
        simp only [Act.put, List.setIfInBounds_toArray, List.set_cons_zero, List.set_cons_succ]
        refine take_upto (i := 3) (some 31) (ndv (k : Int) (ol : Int) (.slice oa oes.length oc) (.slice da 0 dc)) rfl rfl (by kernel_rfl) (by kernel_rfl) (by kernel_rfl) (by kernel_rfl) (by kernel_rfl) (by decide) (fun _ _ _ h => h) (by rfl) (fun W hW => ?_) hS ?_
        · have hx := HX.out W hW
          clear hW
          go_simp
        simp only [Act.put, List.setIfInBounds_toArray, List.set_cons_zero, List.set_cons_succ]
        refine next_upto 4 (by kernel_rfl) rfl (fun K hK => ?_)
        go_simp
        refine HF.out.2.1.mono ?_
        rintro e w5 ⟨lv5, rfl, hl5, hb5⟩
        have hd2 := hd1.trans (hb5.mono hd1.size)
        refine hK.out _ _ (fun _ => HF.out.1 _ hd2) ?_
        clear hK K hS
        have hS := HF.out.1 _ hd2
        refine next_upto 5 (by kernel_rfl) rfl (fun K hK => ?_)
        go_simp
        refine (HF.out.2.2.1 _ hd2 _ hl5.1).mono ?_
        rintro e w6 ⟨rfl, hb6⟩
        have hd3 := hd2.trans (hb6.mono hd2.size)
        refine hK.out _ _ (fun _ => HF.out.1 _ hd3) ?_
        clear hK K hS hl5
        have hS := HF.out.1 _ hd3
        refine next_upto 6 (by kernel_rfl) rfl (fun K hK => ?_)
        go_simp
        refine (HF.out.2.2.2 _ hd3).mono ?_
        rintro e w7 ⟨cv, rfl, hcn, hb7⟩
        have hd4 := hd3.trans (hb7.mono hd3.size)
        refine hK.out _ _ (fun _ => HF.out.1 _ hd4) ?_
        clear hK K hS
        have hS := HF.out.1 _ hd4
        obtain ⟨ca, cc, ua, uc, rfl, hce, hcu⟩ := hcn
        refine take_upto (i := 7) (some 27) (.tuple #[ndv ((kidE kd).page : Int) (m : Int) (.slice ca ces.length cc) (.slice ua (endK (kids.map kidE) to' wy).length uc), err 0]) rfl rfl (by kernel_rfl) (by kernel_rfl) (by kernel_rfl) (by kernel_rfl) (by kernel_rfl) (by decide) (fun _ _ _ h => h) (by rfl) (fun W hW => ?_) hS ?_
        · have hx := HX.out W hW
          clear hW
          go_simp
        simp only [Act.put, List.setIfInBounds_toArray, List.set_cons_zero, List.set_cons_succ]
        refine take_upto (i := 8) (some 35) (ndv ((kidE kd).page : Int) (m : Int) (.slice ca ces.length cc) (.slice ua (endK (kids.map kidE) to' wy).length uc)) rfl rfl (by kernel_rfl) (by kernel_rfl) (by kernel_rfl) (by kernel_rfl) (by kernel_rfl) (by decide) (fun _ _ _ h => h) (by rfl) (fun W hW => ?_) hS ?_
        · have hx := HX.out W hW
          clear hW
          go_simp
        simp only [Act.put, List.setIfInBounds_toArray, List.set_cons_zero, List.set_cons_succ]
        refine pure_upto (i := 9) (some 36) (err 0) rfl rfl (by kernel_rfl) (by kernel_rfl) (by kernel_rfl) (by decide) (fun _ _ _ h => h) (by rfl) (fun W => ?_) (fun _ => hS) ?_
        · go_simp
        simp only [Act.put, List.setIfInBounds_toArray, List.set_cons_zero, List.set_cons_succ]
        obtain ⟨hcel, hbr, hst, g1, g3, g9, g10, hne, hnk, hm4, hlm⟩ := H2.out
        have hbw3 := hbr.trans (hd4.mono hbr.size)
        have C9 := hcel.below hd4 hzn
        have f0 := C9.frozen 0
        have f1 := C9.frozen 1
        have f2 := C9.frozen 2
        have f3 := C9.frozen 3
        obtain ⟨s0, s1, s2, s3, -, -, -, -⟩ := hS
        have H3 := Lib.hid (And.intro hbw3 (And.intro C9 (And.intro hce (And.intro hcu hd4))))
        clear hcel hbr hst g1 g3 g9 g10 hne hnk hm4 hlm hbw3 C9 hce hcu hd1 hd2 hd3 hd4 hb5 hb6 hb7
        refine next_upto 10 (by kernel_rfl) rfl (fun K hK => ?_)
        go_simp
        refine hK.out _ _ (fun h => Bool.noConfusion (show true = false from h)) ?_
        clear hK K
        refine next_upto 11 (by kernel_rfl) rfl (fun K hK => ?_)
        go_simp
        refine hK.out _ _ (fun h => Bool.noConfusion (show true = false from h)) ?_
        clear hK K
        refine done_upto (by kernel_rfl) ?_ _
        go_wp2
        obtain ⟨hcel, hbr, hst, g1, g3, g9, g10, hne, hnk, hm4, hlm⟩ := H2.out
        obtain ⟨hbw3, C9, hce, hcu, hd4⟩ := H3.out
        have CF := (((C9.set 0 (.int .i64 (kd.page : Int))).set 1 (.int .i64 (m : Int))).set 2 (.slice ca ces.length cc)).set 3 (.slice ua (endK (kids.map kidE) to' wy).length uc)
        have stf : ∀ T : Nat → Prop, T w.heap.size → Step T w7 ((((w7.setCell ⟨w.heap.size, 0, none⟩ (.int .i64 (kd.page : Int))).setCell ⟨w.heap.size, 1, none⟩ (.int .i64 (m : Int))).setCell ⟨w.heap.size, 2, none⟩ (.slice ca ces.length cc)).setCell ⟨w.heap.size, 3, none⟩ (.slice ua (endK (kids.map kidE) to' wy).length uc)) T := fun T hT =>
          ((((Step.refl T w7).set (p := ⟨w.heap.size, 0, none⟩) hT (.int .i64 (kd.page : Int))).set (p := ⟨w.heap.size, 1, none⟩) hT (.int .i64 (m : Int))).set (p := ⟨w.heap.size, 2, none⟩) hT (.slice ca ces.length cc)).set (p := ⟨w.heap.size, 3, none⟩) hT (.slice ua (endK (kids.map kidE) to' wy).length uc)
        have st1 := stf (fun q => S q ∨ q = w.heap.size) (.inr rfl)
        refine ⟨⟨rfl, ⟨m, kd.page, ces, endK (kids.map kidE) to' wy, kd.prs, cpg, _, _, ⟨CF, hce.step st1, hcu.step st1, g3, g1, g9, g10, hne, hnk, hm4⟩⟩, ?_, (hst.trans (Step.of_below hd4 _)).trans (stf _ rfl)⟩, ?_⟩
        · exact (((hbw3.setCell (p := ⟨w.heap.size, 0, none⟩) (Nat.le_refl _) (.int .i64 (kd.page : Int))).setCell (p := ⟨w.heap.size, 1, none⟩) (Nat.le_refl _) (.int .i64 (m : Int))).setCell (p := ⟨w.heap.size, 2, none⟩) (Nat.le_refl _) (.slice ca ces.length cc)).setCell (p := ⟨w.heap.size, 3, none⟩) (Nat.le_refl _) (.slice ua (endK (kids.map kidE) to' wy).length uc)
        · have e1 : mLv w.heap.size wr = m + 1 := mLv_of (by rw [n1', hlm]; norm_cast)
          have e2 := mLv_of (g := w.heap.size) (l := m) (CF.cell 1)
          exact Nat.lt_of_le_of_lt (Nat.le_of_eq e2) (by omega)
      · have hni : ¬ (ol : Int) < (l' : Int) := by omega
        have hnp : ((pg' : Int) == (k : Int)) = false := by rw [beq_eq_false_iff_ne]; have := hR.ne; omega
        have n0 : wr.cell? ⟨w.heap.size, 0, none⟩ = some (.int .i64 (pg' : Int)) := hR.cel.cell 0
        have HB := Lib.hid hbr
        clear hR hst COr hbr hgo
        go_wp2
        go_ret
        exact ⟨rfl, HB.out⟩
end Go.Proofs.YtgekeemhbnhelaaGreat
namespace Go.Proofs.YtgekeemhbnhelaaGreat
open Go.RowKit

def ints (l : List Nat) : List Int := l.map fun k : Nat => (k : Int)
theorem ints_length (l : List Nat) : (ints l).length = l.length := by simp [ints]
theorem ints_append (a b : List Nat) : ints (a ++ b) = ints a ++ ints b := by simp [ints]

/-- What one call has done so far: pages that are taken, what is to stand there, pages that are left. -/
structure Wk where
  T : List Nat
  BL : List Bytes
  X : List Nat

structure StAt (w : World) (tb db pb fr : Nat) (D : Dv) (l : List Pg) (wb : Nat) (top : Nd) (k : Wk) (S F G : Nat → Prop) (tev ttv tv bv xv : Value) : Prop where
  tr : TrAt w tb db pb fr D l S F G
  cel : Cel w wb [ptr tb, .int .i64 top.page, .int .i64 (top.lvl : Nat), tev, ttv, tv, bv, .slice none 0 0, xv] 112
  te : Rd kdEn w S tev top.ents
  tt : Bsf w S ttv top.to
  rt : Ro kdIn 3 w S tv (ints k.T)
  rb : Ro kdBs 23 w S bv k.BL
  rx : Ro kdIn 3 w S xv (ints k.X)
  ws : S wb
  wf : ¬ F wb ∧ ¬ G wb
  tf : ∀ q, tv.ownBlock = some q → ¬ F q ∧ ¬ G q ∧ q ≠ wb
  bf : ∀ q, bv.ownBlock = some q → ¬ F q ∧ ¬ G q ∧ q ≠ wb
  xf : ∀ q, xv.ownBlock = some q → ¬ F q ∧ ¬ G q ∧ q ≠ wb
  tx : ∀ q, tv.ownBlock = some q → xv.ownBlock ≠ some q
  tbn : ∀ q, tv.ownBlock = some q → bv.ownBlock ≠ some q
  bx : ∀ q, bv.ownBlock = some q → xv.ownBlock ≠ some q
def St (w : World) (tb db pb fr : Nat) (D : Dv) (l : List Pg) (wb : Nat) (top : Nd) (k : Wk) (S : Nat → Prop) : Prop := ∃ F G tev ttv tv bv xv, StAt w tb db pb fr D l wb top k S F G tev ttv tv bv xv

section
variable {w w' : World} {tb db pb fr : Nat} {D : Dv} {l : List Pg} {wb : Nat} {top : Nd} {k : Wk} {S F G : Nat → Prop} {tev ttv tv bv xv : Value}

theorem TrAt.below (h : TrAt w tb db pb fr D l S F G) (hb : Below w.heap.size w w') : TrAt w' tb db pb fr D l S F G :=
  ⟨h.tree.below hb h.tree.lt, h.dev.below hb, h.pgs.below hb, h.fg, h.fs, h.gs, fun q hq => Nat.lt_of_lt_of_le (h.lt q hq) hb.size, h.out, h.room⟩
theorem StAt.below (h : StAt w tb db pb fr D l wb top k S F G tev ttv tv bv xv) (hb : Below w.heap.size w w') : StAt w' tb db pb fr D l wb top k S F G tev ttv tv bv xv :=
  { tr := h.tr.below hb, cel := h.cel.below hb h.cel.lt, te := h.te.step (Step.of_below hb S), tt := h.tt.step (Step.of_below hb S), rt := h.rt.below hb, rb := h.rb.below hb, rx := h.rx.below hb,
    ws := h.ws, wf := h.wf, tf := h.tf, bf := h.bf, xf := h.xf, tx := h.tx, tbn := h.tbn, bx := h.bx }
theorem St.below (h : St w tb db pb fr D l wb top k S) (hb : Below w.heap.size w w') : St w' tb db pb fr D l wb top k S := let ⟨F, G, a, b, c, d, e, h⟩ := h; ⟨F, G, a, b, c, d, e, h.below hb⟩
theorem St.tr (h : St w tb db pb fr D l wb top k S) : TrS w tb db pb fr D l S := let ⟨F, G, _, _, _, _, _, h⟩ := h; ⟨F, G, h.tr⟩
theorem St.lt (h : St w tb db pb fr D l wb top k S) : ∀ q, S q → q < w.heap.size := h.tr.lt
theorem St.drewN (h : St w tb db pb fr D l wb top k S) (n : Nat) : St (w.drewN n) tb db pb fr D l wb top k S := h.below (below_drewN (Below.refl _ _) n)
end

section
variable {w w' : World} {tb db pb fr : Nat} {D : Dv} {l : List Pg} {wb : Nat} {top : Nd} {k : Wk} {S S' F G : Nat → Prop} {tev ttv tv bv xv : Value}

theorem TrAt.turn (h : TrAt w tb db pb fr D l S F G) (st : Step S w w' S') (hk : ∀ q, F q ∨ G q → w'.heap[q]? = w.heap[q]?) (hi : ∀ q, S q → S' q) (hlt : ∀ q, S' q → q < w'.heap.size) : TrAt w' tb db pb fr D l S' F G :=
  ⟨h.tree.only st.only h.out, h.dev.kept (fun q hq => hk q (.inl hq)) st.size, h.pgs.kept (fun q hq => hk q (.inr hq)) st.size, h.fg, fun q hq => hi q (h.fs q hq), fun q hq => hi q (h.gs q hq), hlt,
    fun hq => (st.more tb hq).elim h.out fun h2 => by have := h.tree.lt; omega, h.room⟩

/-- One page more is left. -/
theorem StAt.pushX {lit : Obj} {w6 : World} {v' : Value} {n : Nat} (h : StAt w tb db pb fr D l wb top k S F G tev ttv tv bv xv) (hg : (w.alloc lit).grownBy w6 xv.ownBlock) (hl : v'.ownBlock = xv.ownBlock ∨ v'.ownBlock = some (w.alloc lit).heap.size)
    (hr : Ro kdIn 3 w6 (Sv S v') v' (ints (k.X ++ [n]))) :
    StAt (w6.setCell ⟨wb, 8, none⟩ v') tb db pb fr D l wb top ⟨k.T, k.BL, k.X ++ [n]⟩ (Sv S v') F G tev ttv tv bv v' ∧ Step S w (w6.setCell ⟨wb, 8, none⟩ v') (Sv S v') := by
  have hza : (w.alloc lit).heap.size = w.heap.size + 1 := by simp
  have hwb := h.cel.lt
  have hsame : ∀ g, g < w.heap.size → g ≠ wb → xv.ownBlock ≠ some g → (w6.setCell ⟨wb, 8, none⟩ v').heap[g]? = w.heap[g]? := fun g hg1 hg2 hg3 => by
    rw [Below.heap_setCell _ _ _ _ hg2, hg.block g (by omega) (fun e => hg3 e.symm), Below.heap_alloc _ _ _ hg1]
  have st6 : Step S w w6 (Sv S v') := ((Step.refl S w).alloc lit).trans (step_own hg (fun q hq => h.rx.inS hq) hl)
  have hst : Step S w (w6.setCell ⟨wb, 8, none⟩ v') (Sv S v') := st6.set (p := ⟨wb, 8, none⟩) (.inl h.ws) v'
  have hvx : ∀ q, v'.ownBlock = some q → xv.ownBlock = some q ∨ w.heap.size < q := fun q hq => by
    rcases hl with e | e
    · exact .inl (e ▸ hq)
    · rw [e] at hq
      cases hq
      exact .inr (by omega)
  have hz6 : w.heap.size ≤ w6.heap.size := st6.size
  refine ⟨{
    tr := h.tr.turn hst (fun q hq => ?_) (fun q hq => .inl hq) (fun q hq => ?_)
    cel := ?_, te := h.te.step hst, tt := h.tt.step hst
    rt := h.rt.keep (fun g hg1 => ?_) hst (fun q hq => .inl hq)
    rb := h.rb.keep (fun g hg1 => ?_) hst (fun q hq => .inl hq)
    rx := hr.keep (fun g hg1 => ?_) ((Step.refl _ _).set (p := ⟨wb, 8, none⟩) (.inl h.ws) v') (fun _ h => h)
    ws := .inl h.ws, wf := h.wf, tf := h.tf, bf := h.bf
    xf := fun q hq => ?_
    tx := fun q hq hq2 => ?_
    tbn := h.tbn
    bx := fun q hq hq2 => ?_ }, hst⟩
  · have hq1 : q < w.heap.size := h.tr.lt q (hq.elim (h.tr.fs q) (h.tr.gs q))
    refine hsame q hq1 (fun e => ?_) (fun e => ?_)
    · subst e
      exact hq.elim h.wf.1 h.wf.2
    · exact hq.elim (h.xf q e).1 (h.xf q e).2.1
  · rcases hq with hq | hq
    · exact Nat.lt_of_lt_of_le (h.tr.lt q hq) hst.size
    · have := hr.own hq
      simpa [World.setCell] using this
  · have h6 : Cel w6 wb [ptr tb, .int .i64 top.page, .int .i64 (top.lvl : Nat), tev, ttv, tv, bv, .slice none 0 0, xv] 112 := (h.cel.alloc lit).kept (hg.block _ (h.cel.alloc lit).lt fun e => (h.xf wb e.symm).2.2 rfl)
    exact h6.set 8 v'
  · exact hsame g (h.rt.own hg1) (h.tf g hg1).2.2 (h.tx g hg1)
  · exact hsame g (h.rb.own hg1) (h.bf g hg1).2.2 (h.bx g hg1)
  · refine Below.heap_setCell _ _ _ _ (fun e => ?_)
    have e' : g = wb := e
    rcases hvx g hg1 with h1 | h1
    · exact (h.xf g h1).2.2 e'
    · omega
  · rcases hvx q hq with h1 | h1
    · exact h.xf q h1
    · refine ⟨fun hf => ?_, fun hf => ?_, fun e => by omega⟩
      · have := h.tr.lt q (h.tr.fs q hf); omega
      · have := h.tr.lt q (h.tr.gs q hf); omega
  · rcases hvx q hq2 with h1 | h1
    · exact h.tx q hq h1
    · have := h.rt.own hq; omega
  · rcases hvx q hq2 with h1 | h1
    · exact h.bx q hq h1
    · have := h.rb.own hq; omega
end

/-! ### a page that is left -/
section
variable {w : World} {tb db pb fr : Nat} {D : Dv} {l : List Pg} {wb : Nat} {top : Nd} {k : Wk} {S : Nat → Prop}

/-- What leave makes of it. -/
def leaves (p : Int) (k : Wk) : Wk := if p = -1 then k else ⟨k.T, k.BL, k.X ++ [p.toNat]⟩
def Leaves (w : World) (tb db pb fr : Nat) (D : Dv) (l : List Pg) (wb : Nat) (top : Nd) (k : Wk) (S F G : Nat → Prop) (tev ttv tv bv xv : Value) (e : Ending) (w' : World) : Prop :=
  e = .returned (.tuple #[]) ∧ ∃ S' xv', StAt w' tb db pb fr D l wb top k S' F G tev ttv tv bv xv' ∧ Step S w w' S' ∧ (∀ q, S q → S' q) ∧ (∀ q, xv'.ownBlock = some q → xv.ownBlock = some q ∨ w.heap.size ≤ q) ∧ ∀ g, g < w.heap.size → g ≠ wb → xv.ownBlock ≠ some g → w'.heap[g]? = w.heap[g]?

theorem leave_none {lv : Int} {ev tv0 : Value} {F G : Nat → Prop} {tev ttv tv bv xv : Value} (h : StAt w tb db pb fr D l wb top k S F G tev ttv tv bv xv) : Calls Tryz.prog 115 #[ptr wb, ndv (-1) lv ev tv0] w (Leaves w tb db pb fr D l wb top k S F G tev ttv tv bv xv) := by
  have hb : Below w.heap.size w (w.alloc (.cells #[.int .i64 (-1), .int .i64 lv, ev, tv0] 85)) := (Below.refl _ _).alloc (Nat.le_refl _) _
  have HH := Lib.hid (And.intro h hb)
  clear h hb
  go_enter Tryz.func115, Tryz.ntmps115
  go_wp2
  exact bodyPost_end (results_none rfl _ _ _) rfl ⟨rfl, S, xv, HH.out.1.below HH.out.2, Step.of_below HH.out.2 S, fun _ h => h, fun _ h => .inl h, fun g hg _ _ => HH.out.2.block g hg⟩

set_option maxRecDepth 100000 in
set_option maxHeartbeats 1000000 in
theorem leave_some {lv : Int} {ev tv0 : Value} (n : Nat) {F G : Nat → Prop} {tev ttv tv bv xv : Value} (h : StAt w tb db pb fr D l wb top k S F G tev ttv tv bv xv) (hx : k.X.length ≤ 4294967290) : Calls Tryz.prog 115 #[ptr wb, ndv (n : Int) lv ev tv0] w (Leaves w tb db pb fr D l wb top ⟨k.T, k.BL, k.X ++ [n]⟩ S F G tev ttv tv bv xv) := by
  have hb : Below w.heap.size w (w.alloc (.cells #[.int .i64 (n : Int), .int .i64 lv, ev, tv0] 85)) := (Below.refl _ _).alloc (Nat.le_refl _) _
  have C0 : Cel (w.alloc (.cells #[.int .i64 (n : Int), .int .i64 lv, ev, tv0] 85)) w.heap.size [.int .i64 (n : Int), .int .i64 lv, ev, tv0] 85 := Cel.new w _ _
  obtain ⟨xa, xc, hxv, _⟩ := h.rx.shape
  obtain ⟨xn, hxn⟩ : ∃ xn, xn = (ints k.X).length := ⟨_, rfl⟩
  rw [← hxn] at hxv
  subst hxv
  have h1 := h.below (hb.drew)
  have hcell := h1.cel
  have s1 : (w.alloc (.cells #[.int .i64 (n : Int), .int .i64 lv, ev, tv0] 85)).drew.cell? ⟨wb, 8, none⟩ = some (.slice xa xn xc) := hcell.cell 8
  have s2 : (w.alloc (.cells #[.int .i64 (n : Int), .int .i64 lv, ev, tv0] 85)).drew.cell? ⟨w.heap.size, 0, none⟩ = some (.int .i64 (n : Int)) := C0.cell 0
  have hne : ((n : Int) == -1) = false := by rw [beq_eq_false_iff_ne]; omega
  have HX := Lib.hid (fun (W : World) (hW : W.cell? ⟨wb, 8, none⟩ = some (.slice xa xn xc) ∧ W.cell? ⟨w.heap.size, 0, none⟩ = some (.int .i64 (n : Int))) => hW)
  have HH := Lib.hid (And.intro h1 (And.intro hb (And.intro C0 (And.intro h.tr.lt hx))))
  clear h h1 hb C0 hcell hx hxn
  go_enter Tryz.func115, Tryz.ntmps115
  go_wp2_with fail
  refine region_upto 11 (fun W => W.cell? ⟨wb, 8, none⟩ = some (.slice xa xn xc) ∧ W.cell? ⟨w.heap.size, 0, none⟩ = some (.int .i64 (n : Int))) (by kernel_rfl) ⟨s1, s2⟩ (fun hS => ?_)
  refine pure_upto (i := 0) (some 7) (ptr wb) rfl rfl (by kernel_rfl) (by kernel_rfl) (by kernel_rfl) (by decide) (fun _ _ _ h => h) (by rfl) (fun W => ?_) (fun _ => hS) ?_
  · go_simp
  simp only [Act.put, List.setIfInBounds_toArray, List.set_cons_zero, List.set_cons_succ]
  refine pure_upto (i := 1) (some 8) (ptr wb) rfl rfl (by kernel_rfl) (by kernel_rfl) (by kernel_rfl) (by decide) (fun _ _ _ h => h) (by rfl) (fun W => ?_) (fun _ => hS) ?_
  · go_simp
  simp only [Act.put, List.setIfInBounds_toArray, List.set_cons_zero, List.set_cons_succ]
  refine pure_upto (i := 2) (some 9) (ptr wb) rfl rfl (by kernel_rfl) (by kernel_rfl) (by kernel_rfl) (by decide) (fun _ _ _ h => h) (by rfl) (fun W => ?_) (fun _ => hS) ?_
  · go_simp
  simp only [Act.put, List.setIfInBounds_toArray, List.set_cons_zero, List.set_cons_succ]
  refine pure_upto (i := 3) (some 10) (.pointer (some ⟨wb, 8, none⟩)) rfl rfl (by kernel_rfl) (by kernel_rfl) (by kernel_rfl) (by decide) (fun _ _ _ h => h) (by rfl) (fun W => ?_) (fun _ => hS) ?_
  · go_simp
  simp only [Act.put, List.setIfInBounds_toArray, List.set_cons_zero, List.set_cons_succ]
  refine take_upto (i := 4) (some 11) (.slice xa xn xc) rfl rfl (by kernel_rfl) (by kernel_rfl) (by kernel_rfl) (by kernel_rfl) (by kernel_rfl) (by decide) (fun _ _ _ h => h) (by rfl) (fun W hW => ?_) hS ?_
  · have hx := HX.out W hW
    clear hW
    go_simp
  simp only [Act.put, List.setIfInBounds_toArray, List.set_cons_zero, List.set_cons_succ]
  refine pure_upto (i := 5) (some 12) (.pointer (some ⟨w.heap.size, 0, none⟩)) rfl rfl (by kernel_rfl) (by kernel_rfl) (by kernel_rfl) (by decide) (fun _ _ _ h => h) (by rfl) (fun W => ?_) (fun _ => hS) ?_
  · go_simp
  simp only [Act.put, List.setIfInBounds_toArray, List.set_cons_zero, List.set_cons_succ]
  refine take_upto (i := 6) (some 13) (.int .i64 (n : Int)) rfl rfl (by kernel_rfl) (by kernel_rfl) (by kernel_rfl) (by kernel_rfl) (by kernel_rfl) (by decide) (fun _ _ _ h => h) (by rfl) (fun W hW => ?_) hS ?_
  · have hx := HX.out W hW
    clear hW
    go_simp
  simp only [Act.put, List.setIfInBounds_toArray, List.set_cons_zero, List.set_cons_succ]
  obtain ⟨h1, hb, C0, hlt, hx⟩ := HH.out
  obtain ⟨W, hW⟩ : ∃ W, W = (w.alloc (.cells #[.int .i64 (n : Int), .int .i64 lv, ev, tv0] 85)).drew := ⟨_, rfl⟩
  rw [← hW] at h1
  have hro : Ro kdIn 3 (W.alloc (.cells #[.int .i64 (n : Int)] 3)) S (.slice xa xn xc) (ints k.X) := h1.rx.below ((Below.refl _ _).alloc (Nat.le_refl _) _)
  have hlit : Rd kdIn (W.alloc (.cells #[.int .i64 (n : Int)] 3)) S (.slice (some ⟨W.heap.size, 0, none⟩) 1 1) [(n : Int)] :=
    rd_lit kdIn W 3 S h1.tr.lt [(n : Int)] _ rfl (fun _ _ => trivial) (by simp) rfl
  obtain ⟨v', w6, hrun, ro6, st6, gr6, lo6⟩ := run_append_ro int_ty 61 hro hlit (by rw [ints_length]; simp; omega)
  have hlv : ints k.X ++ [(n : Int)] = ints (k.X ++ [n]) := by simp [ints]
  rw [hlv] at ro6
  obtain ⟨ua, uc, hu, _⟩ := ro6.shape
  have hfin := h1.pushX gr6 lo6 ro6
  have hlo : ∀ q, v'.ownBlock = some q → (Value.slice xa xn xc).ownBlock = some q ∨ w.heap.size ≤ q := fun q hq => by
    rcases lo6 with e | e
    · exact .inl (e ▸ hq)
    · rw [e] at hq
      cases hq
      rw [hW]
      simp
      omega
  have c8 : w6.cell? ⟨wb, 8, none⟩ = some (.slice xa xn xc) ∧ w6.frozen? ⟨wb, 8, none⟩ = false := by
    have hC6 := (h1.cel.alloc (.cells #[.int .i64 (n : Int)] 3)).kept (gr6.block _ (h1.cel.alloc _).lt fun e => (h1.xf wb e.symm).2.2 rfl)
    exact ⟨hC6.cell 8, hC6.frozen 8⟩
  obtain ⟨c8, f8⟩ := c8
  have hsm : ∀ g, g < w.heap.size → g ≠ wb → (Value.slice xa xn xc).ownBlock ≠ some g → (w6.setCell ⟨wb, 8, none⟩ v').heap[g]? = w.heap[g]? := fun g hg hgw hgx => by
    have hzW : w.heap.size ≤ W.heap.size := by rw [hW]; simp
    rw [Below.heap_setCell _ _ _ _ hgw, gr6.block g (by simp; omega) (fun e => hgx e.symm), Below.heap_alloc _ _ _ (by omega), hW]
    exact hb.block g hg
  have HF := Lib.hid (And.intro hfin (And.intro hlo hsm))
  have HW := Lib.hid hW
  have hs2 : (W.alloc (.cells #[.int .i64 (n : Int)] 3)).cell? ⟨wb, 8, none⟩ = some (.slice xa xn xc) ∧ (W.alloc (.cells #[.int .i64 (n : Int)] 3)).cell? ⟨w.heap.size, 0, none⟩ = some (.int .i64 (n : Int)) := by
    have hzW : w.heap.size < W.heap.size := by rw [hW]; simp
    refine ⟨(h1.cel.alloc _).cell 8, ?_⟩
    rw [World.cell?_alloc_lt (h := hzW), hW]
    exact s2
  have hs3 : w6.cell? ⟨wb, 8, none⟩ = some (.slice xa xn xc) ∧ w6.cell? ⟨w.heap.size, 0, none⟩ = some (.int .i64 (n : Int)) := by
    refine ⟨c8, gr6.cell hs2.2 (fun e => ?_)⟩
    have := hlt w.heap.size (h1.rx.inS e.symm)
    omega
  have HS2 := Lib.hid hs2
  have HS3 := Lib.hid hs3
  clear hs2 hs3
  have hz8 : W.heap.size = w.heap.size + 1 := by rw [hW]; simp
  have HZ := Lib.hid hz8
  rw [hu] at HF hrun
  clear h1 hb C0 hlt hx hro hlit ro6 st6 gr6 lo6 hfin hlo hsm hu hlv hz8
  refine next_upto 7 (by kernel_rfl) rfl (fun K hK => ?_)
  rw [← hW]
  clear hW
  go_simp
  refine hK.out _ _ (fun _ => HS2.out) ?_
  clear hK K
  refine next_upto 8 (by kernel_rfl) rfl (fun K hK => ?_)
  refine wp_append_run (.tmp 11) (.tmp 14) 61 rfl rfl rfl hrun ?_
  refine hK.out _ _ (fun _ => HS3.out) ?_
  clear hK K
  refine next_upto 9 (by kernel_rfl) rfl (fun K hK => ?_)
  go_simp
  refine hK.out _ _ (fun _ => HS3.out) ?_
  clear hK K
  refine next_upto 10 (by kernel_rfl) rfl (fun K hK => ?_)
  go_simp
  refine hK.out _ _ (fun _ => HS3.out) ?_
  clear hK K
  refine next_upto 11 (by kernel_rfl) rfl (fun K hK => ?_)
  go_simp
  refine hK.out _ _ (fun h => Bool.noConfusion (show true = false from h)) ?_
  clear hK K
  refine done_upto (by kernel_rfl) ?_ _
  obtain ⟨h1, hb, C0, hlt, hx⟩ := HH.out
  refine bodyPost_end (results_none rfl _ _ _) rfl ⟨rfl, _, _, HF.out.1.1, ?_, fun _ h => .inl h, HF.out.2.1, HF.out.2.2⟩
  have st0 : Step S w W S := by
    rw [HW.out]
    exact (Step.of_below hb S).drew
  exact st0.trans HF.out.1.2
end

theorem leave_any {w : World} {tb db pb fr : Nat} {D : Dv} {l : List Pg} {wb : Nat} {top : Nd} {k : Wk} {S F G : Nat → Prop} {tev ttv tv bv xv : Value} {lv p : Int} {ev tv0 : Value} (h : StAt w tb db pb fr D l wb top k S F G tev ttv tv bv xv) (hp : -1 ≤ p) (hx : k.X.length ≤ 4294967290) :
    Calls Tryz.prog 115 #[ptr wb, ndv p lv ev tv0] w (Leaves w tb db pb fr D l wb top (leaves p k) S F G tev ttv tv bv xv) := by
  unfold leaves
  by_cases h0 : p = -1
  · subst h0
    rw [if_pos rfl]
    exact leave_none h
  · rw [if_neg h0]
    obtain ⟨n, rfl⟩ := Int.eq_ofNat_of_zero_le (show 0 ≤ p by omega)
    rw [Int.toNat_natCast]
    exact leave_some n h hx

/-! ### pages dropped, and taken -/
section
variable {w w' : World} {tb db pb fr : Nat} {D : Dv} {l l' : List Pg} {wb : Nat} {top : Nd} {k : Wk} {S F G : Nat → Prop} {tev ttv tv bv xv : Value}

theorem StAt.pages (h : StAt w tb db pb fr D l wb top k S F G tev ttv tv bv xv) (hp : Pgs w' pb l' G) (ho : Only G w w') (hl : l'.length = l.length) : StAt w' tb db pb fr D l' wb top k S F G tev ttv tv bv xv ∧ Step S w w' S := by
  have hst : Step S w w' S := ⟨ho.mono fun q _ hq => h.tr.gs q hq, fun q hq => .inl hq⟩
  have hsame : ∀ g, g < w.heap.size → ¬ G g → w'.heap[g]? = w.heap[g]? := fun g h1 h2 => ho.block g h1 h2
  exact ⟨{
    tr := ⟨h.tr.tree.only hst.only h.tr.out, h.tr.dev.kept (fun q hq => hsame q (h.tr.dev.fl q hq) (h.tr.fg q hq)) ho.size, hp, h.tr.fg, h.tr.fs, h.tr.gs, fun q hq => Nat.lt_of_lt_of_le (h.tr.lt q hq) ho.size, h.tr.out, by rw [hl]; exact h.tr.room⟩
    cel := h.cel.kept (hsame _ h.cel.lt h.wf.2), te := h.te.step hst, tt := h.tt.step hst
    rt := h.rt.keep (fun g hg => hsame g (h.rt.own hg) (h.tf g hg).2.1) hst (fun _ hq => hq)
    rb := h.rb.keep (fun g hg => hsame g (h.rb.own hg) (h.bf g hg).2.1) hst (fun _ hq => hq)
    rx := h.rx.keep (fun g hg => hsame g (h.rx.own hg) (h.xf g hg).2.1) hst (fun _ hq => hq)
    ws := h.ws, wf := h.wf, tf := h.tf, bf := h.bf, xf := h.xf, tx := h.tx, tbn := h.tbn, bx := h.bx }, hst⟩

theorem rdone_length (l : List Pg) (k : Int) : (rdone l k).length = l.length := by
  unfold rdone
  split
  · rfl
  · split
    · rw [List.length_set]
    · rfl
theorem tdone_length (l : List Pg) : (tdone l).length = l.length := by
  unfold tdone
  split
  · rw [List.length_set]
  · rfl
/-- Pages dropped one behind the other. -/
def dropsP (l : List Pg) (xs : List Nat) : List Pg := xs.foldl (fun l (k : Nat) => rdone l k) l
theorem dropsP_length (l : List Pg) (xs : List Nat) : (dropsP l xs).length = l.length := by
  induction xs generalizing l with
  | nil => rfl
  | cons a r ih => exact (ih (rdone l a)).trans (rdone_length l a)
theorem dropsP_take_succ {l : List Pg} {xs : List Nat} {j a : Nat} (h : xs[j]? = some a) : dropsP l (xs.take (j + 1)) = rdone (dropsP l (xs.take j)) (a : Int) := by
  unfold dropsP
  rw [List.take_add_one, h, List.foldl_append]
  rfl

set_option maxHeartbeats 1000000 in
theorem tdrop_at {lv : Value} {xs : List Nat} (h : StAt w tb db pb fr D l wb top k S F G tev ttv tv bv xv) (hl : Rw w lv xs.length 1 (kdIn.cells (ints xs))) (hg : ∀ q, lv.ownBlock = some q → ¬ G q) (hn : xs.length ≤ 4294967296) :
    Calls Tryz.prog 82 #[ptr wb, lv] w fun e w' => e = .returned (.tuple #[]) ∧ StAt w' tb db pb fr D (dropsP l xs) wb top k S F G tev ttv tv bv xv ∧ Only G w w' := by
  obtain ⟨la, lc, rfl, _⟩ := hl.shape
  have HH := Lib.hid (And.intro h (And.intro hl hg))
  clear h hl hg
  go_enter Tryz.func82, Tryz.ntmps82
  go_wp2
  go_loopw [8] (fun i wr => ∃ j : Nat, j ≤ xs.length ∧ i = .int .i64 j ∧ StAt wr tb db pb fr D (dropsP l (xs.take j)) wb top k S F G tev ttv tv bv xv ∧ Only G w wr) (fun i _ => xs.length - (intOf i).toNat)
  case atStart => exact ⟨0, Nat.zero_le _, rfl, HH.out.1, Only.refl _ _⟩
  case round =>
    obtain ⟨j, hj, rfl, hst, hon⟩ := hrel
    by_cases hlt : j < xs.length
    · obtain ⟨a, ha⟩ : ∃ a, xs[j]? = some a := ⟨_, List.getElem?_eq_getElem hlt⟩
      have hil : (j : Int) < (xs.length : Int) := by omega
      have hrw := HH.out.2.1.only hon (fun _ => HH.out.2.2)
      obtain ⟨g, o, cap, e0, _, _, hgl, hc⟩ := hrw.open (by omega) (by decide)
      simp only [Value.slice.injEq] at e0
      obtain ⟨rfl, _, rfl⟩ := e0
      have c0 : wr.cell? ⟨g, o + j, none⟩ = some (.int .i64 (a : Int)) := by
        have := hc j (.int .i64 (a : Int)) (by
          have := kdIn.cells_at (ts := ints xs) (i := j) (t := (a : Int)) (by simp [ints, ha]) (j := 0) (u := .int .i64 (a : Int)) rfl
          simpa [kdIn] using this)
        exact this
      have t0 : wr.cell? ⟨wb, 0, none⟩ = some (ptr tb) := hst.cel.cell 0
      have t1 : wr.cell? ⟨tb, 1, none⟩ = some (ptr pb) := hst.tr.tree.cell 1
      have P := Go.Proofs.YtgekeemhbnhelaaGreat.drop_any hst.tr.pgs (a : Int)
      have H2 := Lib.hid (And.intro hst (And.intro hon (dropsP_take_succ (l := l) ha)))
      clear hst hon hrw hc ha
      go_wp2_with fail
      refine P.mono ?_
      rintro e w2 ⟨rfl, hp2, ho2⟩
      clear P
      have H3 := Lib.hid (And.intro hp2 ho2)
      clear hp2 ho2
      go_wp2
      go_roundw
      case rel =>
        obtain ⟨hst, hon, hd⟩ := H2.out
        obtain ⟨hp2, ho2⟩ := H3.out
        refine ⟨j + 1, by omega, by go_num, ?_, hon.trans ho2⟩
        rw [hd]
        exact (hst.pages hp2 ho2 (rdone_length _ _)).1
      case measure => simp [intOf]; omega
    · obtain rfl : j = xs.length := by omega
      rw [List.take_length] at hst
      have H2 := Lib.hid (And.intro hst hon)
      clear hst hon
      go_wp2
      exact bodyPost_end (results_none rfl _ _ _) rfl ⟨rfl, H2.out.1, H2.out.2⟩
end
end Go.Proofs.YtgekeemhbnhelaaGreat
namespace Go.Proofs.YtgekeemhbnhelaaGreat
open Go.RowKit

/-- The top's tree is whole; these are its pages. -/
def TopOk (B : Nat → Bytes) (N : Nat) (top : Nd) (P : List Nat) : Prop :=
  top.page = -1 ∨ ∃ (pg : Nat) (pgs : List Nat) (prs : List Pr), top.page = (pg : Int) ∧ P = pg :: pgs ∧ Nb B N top.lvl top.ents prs pgs ∧ NdOk N top.lvl top.ents ∧ RiseP prs ∧ Under prs top.to ∧ top.lvl ≤ 4096
/-- What take answers and leaves. -/
def Tookn (w : World) (tb db pb fr : Nat) (D : Dv) (l : List Pg) (wb : Nat) (top : Nd) (k : Wk) (S F G : Nat → Prop) (tev ttv tv bv xv : Value) (e : Ending) (w' : World) : Prop :=
  e = .returned (.tuple #[.int .i64 (tpage l), err (tcode l)]) ∧ StAt w' tb db pb fr D (tdone l) wb top k S F G tev ttv tv bv xv ∧ Step S w w' S ∧ Only G w w'

section
variable {w : World} {tb db pb fr : Nat} {D : Dv} {l : List Pg} {wb : Nat} {top : Nd} {k : Wk} {S : Nat → Prop} {P : List Nat}

theorem thas_any {n : Nat} (h : St w tb db pb fr D l wb top k S) (ho : D.on = true) (ht : TopOk (blkOf D fr) l.length top P) (hn : n ∉ P) (hl : n < l.length) {tev ttv : Value} (he : Rd kdEn w S tev top.ents) (htt : Bsf w S ttv top.to) :
    Calls Tryz.prog 132 #[ptr tb, ndv top.page (top.lvl : Int) tev ttv, .int .i64 (n : Int)] w fun e w' => e = .returned (.bool false) ∧ Below w.heap.size w w' := by
  rcases ht with h1 | ⟨pg, pgs, prs, h1, rfl, h3, h4, h5, h6, h7⟩
  · rw [h1]
    exact has_none n w
  · rw [h1]
    have hne : pg ≠ n := fun e => hn (e ▸ List.mem_cons_self)
    exact has_node w h.tr ho he htt h3 h4 h5 h6 hne (fun e => hn (List.mem_cons_of_mem _ e)) hl h7

theorem wtake_none {F G : Nat → Prop} {tev ttv tv bv xv : Value} (h : StAt w tb db pb fr D l wb top k S F G tev ttv tv bv xv) (hn : leastFree l = none) : Calls Tryz.prog 102 #[ptr wb] w (Tookn w tb db pb fr D l wb top k S F G tev ttv tv bv xv) := by
  unfold Tookn tpage tcode tdone
  rw [hn]
  have t0 : w.cell? ⟨wb, 0, none⟩ = some (ptr tb) := h.cel.cell 0
  have t1 : w.cell? ⟨tb, 1, none⟩ = some (ptr pb) := h.tr.tree.cell 1
  have T := pgtake_any h.tr.pgs
  unfold tpage tcode tdone at T
  rw [hn] at T
  have HH := Lib.hid h
  clear h hn
  go_enter Tryz.func102, Tryz.ntmps102
  go_wp2
  go_loopw [2] (fun _ wr => wr = w) (fun _ _ => 0)
  case atStart => rfl
  case round =>
    obtain rfl := hrel
    go_wp2_with fail
    refine T.mono ?_
    rintro e w1 ⟨rfl, hp, hon⟩
    clear T
    have H1 := Lib.hid (And.intro (HH.out.pages hp hon rfl) hon)
    clear hp hon
    go_wp2
    go_ret2
    exact ⟨rfl, H1.out.1.1, H1.out.1.2, H1.out.2⟩

set_option maxRecDepth 100000 in
set_option maxHeartbeats 1000000 in
theorem wtake_some {n : Nat} {F G : Nat → Prop} {tev ttv tv bv xv : Value} (h : StAt w tb db pb fr D l wb top k S F G tev ttv tv bv xv) (ho : D.on = true) (ht : TopOk (blkOf D fr) l.length top P) (hn : leastFree l = some n) (hP : n ∉ P) : Calls Tryz.prog 102 #[ptr wb] w (Tookn w tb db pb fr D l wb top k S F G tev ttv tv bv xv) := by
  unfold Tookn
  obtain ⟨hx, hx1, hx2, _⟩ := least_some hn
  have hnl : n < l.length := (List.getElem?_eq_some_iff.1 hx1).1
  have e1 : tpage l = (n : Int) := by unfold tpage; rw [hn]
  have e2 : tcode l = 0 := by unfold tcode; rw [hn]
  rw [e1, e2]
  have t0 : w.cell? ⟨wb, 0, none⟩ = some (ptr tb) := h.cel.cell 0
  have t1 : w.cell? ⟨tb, 1, none⟩ = some (ptr pb) := h.tr.tree.cell 1
  have T := pgtake_any h.tr.pgs
  rw [e1, e2] at T
  have hlen := tdone_length l
  have HH := Lib.hid (And.intro h (And.intro ht (And.intro hP (And.intro hnl hlen))))
  clear h hn ht hP hx1 hx2 e1 e2 hnl hlen
  go_enter Tryz.func102, Tryz.ntmps102
  go_wp2
  go_loopw [2] (fun _ wr => wr = w) (fun _ _ => 0)
  case atStart => rfl
  case round =>
    obtain rfl := hrel
    go_wp2_with fail
    refine T.mono ?_
    rintro e w1 ⟨rfl, hp, hon⟩
    clear T
    obtain ⟨h, ht, hP, hnl, hlen⟩ := HH.out
    obtain ⟨h1, st1⟩ := h.pages hp hon hlen
    have s0 : w1.drew.cell? ⟨wb, 0, none⟩ = some (ptr tb) := h1.cel.cell 0
    have s1 : w1.drew.cell? ⟨wb, 1, none⟩ = some (.int .i64 top.page) := h1.cel.cell 1
    have s2 : w1.drew.cell? ⟨wb, 2, none⟩ = some (.int .i64 (top.lvl : Nat)) := h1.cel.cell 2
    have s3 : w1.drew.cell? ⟨wb, 3, none⟩ = some tev := h1.cel.cell 3
    have s4 : w1.drew.cell? ⟨wb, 4, none⟩ = some ttv := h1.cel.cell 4
    have hd := h1.below (below_drewN (Below.refl _ _) 1)
    have A := thas_any (n := n) ⟨_, _, _, _, _, _, _, hd⟩ ho (P := P) (by rw [hlen]; exact ht) hP (by rw [hlen]; exact hnl) hd.te hd.tt
    obtain ⟨tea, tec, rfl, _⟩ := h1.te.shape
    obtain ⟨tta, ttc, rfl, _⟩ := h1.tt.1.shape
    have H1 := Lib.hid (And.intro h1 (And.intro st1 (And.intro hd hon)))
    clear h ht hP hnl hlen h1 st1 hp hon hd t0 t1
    go_wp2_with fail
    have HX := Lib.hid (fun (W : World) (hW : W.cell? ⟨wb, 0, none⟩ = some (ptr tb) ∧ W.cell? ⟨wb, 1, none⟩ = some (.int .i64 top.page) ∧ W.cell? ⟨wb, 2, none⟩ = some (.int .i64 (top.lvl : Nat)) ∧ W.cell? ⟨wb, 3, none⟩ = some (.slice tea top.ents.length tec) ∧ W.cell? ⟨wb, 4, none⟩ = some (.slice tta top.to.length ttc)) => hW)
    refine region_till 99 (fun W => W.cell? ⟨wb, 0, none⟩ = some (ptr tb) ∧ W.cell? ⟨wb, 1, none⟩ = some (.int .i64 top.page) ∧ W.cell? ⟨wb, 2, none⟩ = some (.int .i64 (top.lvl : Nat)) ∧ W.cell? ⟨wb, 3, none⟩ = some (.slice tea top.ents.length tec) ∧ W.cell? ⟨wb, 4, none⟩ = some (.slice tta top.to.length ttc)) (by kernel_rfl) ⟨s0, s1, s2, s3, s4⟩ (fun hS => ?_)
    refine take_till (i := 0) (some 20) (ptr wb) rfl rfl (by kernel_rfl) (by kernel_rfl) (by kernel_rfl) (by kernel_rfl) (by decide) (fun _ _ _ h => h) (by rfl) (fun W hW => ?_) hS ?_
    · have hx := HX.out W hW
      clear hW
      go_simp
    simp only [Act.put, List.setIfInBounds_toArray, List.set_cons_zero, List.set_cons_succ]
    refine take_till (i := 1) (some 21) (ptr wb) rfl rfl (by kernel_rfl) (by kernel_rfl) (by kernel_rfl) (by kernel_rfl) (by decide) (fun _ _ _ h => h) (by rfl) (fun W hW => ?_) hS ?_
    · have hx := HX.out W hW
      clear hW
      go_simp
    simp only [Act.put, List.setIfInBounds_toArray, List.set_cons_zero, List.set_cons_succ]
    refine take_till (i := 2) (some 22) (.pointer (some ⟨wb, 0, none⟩)) rfl rfl (by kernel_rfl) (by kernel_rfl) (by kernel_rfl) (by kernel_rfl) (by decide) (fun _ _ _ h => h) (by rfl) (fun W hW => ?_) hS ?_
    · have hx := HX.out W hW
      clear hW
      go_simp
    simp only [Act.put, List.setIfInBounds_toArray, List.set_cons_zero, List.set_cons_succ]
    refine take_till (i := 3) (some 23) (ptr tb) rfl rfl (by kernel_rfl) (by kernel_rfl) (by kernel_rfl) (by kernel_rfl) (by decide) (fun _ _ _ h => h) (by rfl) (fun W hW => ?_) hS ?_
    · have hx := HX.out W hW
      clear hW
      go_simp
    simp only [Act.put, List.setIfInBounds_toArray, List.set_cons_zero, List.set_cons_succ]
    refine take_till (i := 4) (some 24) (ptr wb) rfl rfl (by kernel_rfl) (by kernel_rfl) (by kernel_rfl) (by kernel_rfl) (by decide) (fun _ _ _ h => h) (by rfl) (fun W hW => ?_) hS ?_
    · have hx := HX.out W hW
      clear hW
      go_simp
    simp only [Act.put, List.setIfInBounds_toArray, List.set_cons_zero, List.set_cons_succ]
    refine take_till (i := 5) (some 25) (ptr wb) rfl rfl (by kernel_rfl) (by kernel_rfl) (by kernel_rfl) (by kernel_rfl) (by decide) (fun _ _ _ h => h) (by rfl) (fun W hW => ?_) hS ?_
    · have hx := HX.out W hW
      clear hW
      go_simp
    simp only [Act.put, List.setIfInBounds_toArray, List.set_cons_zero, List.set_cons_succ]
    refine take_till (i := 6) (some 26) (.pointer (some ⟨wb, 1, none⟩)) rfl rfl (by kernel_rfl) (by kernel_rfl) (by kernel_rfl) (by kernel_rfl) (by decide) (fun _ _ _ h => h) (by rfl) (fun W hW => ?_) hS ?_
    · have hx := HX.out W hW
      clear hW
      go_simp
    simp only [Act.put, List.setIfInBounds_toArray, List.set_cons_zero, List.set_cons_succ]
    refine take_till (i := 7) (some 27) (ndv top.page (top.lvl : Int) (.slice tea top.ents.length tec) (.slice tta top.to.length ttc)) rfl rfl (by kernel_rfl) (by kernel_rfl) (by kernel_rfl) (by kernel_rfl) (by decide) (fun _ _ _ h => h) (by rfl) (fun W hW => ?_) hS ?_
    · have hx := HX.out W hW
      clear hW
      go_simp
    simp only [Act.put, List.setIfInBounds_toArray, List.set_cons_zero, List.set_cons_succ]
    refine take_till (i := 8) (some 28) (.int .i64 (n : Int)) rfl rfl (by kernel_rfl) (by kernel_rfl) (by kernel_rfl) (by kernel_rfl) (by decide) (fun _ _ _ h => h) (by rfl) (fun W hW => ?_) hS ?_
    · have hx := HX.out W hW
      clear hW
      go_simp
    simp only [Act.put, List.setIfInBounds_toArray, List.set_cons_zero, List.set_cons_succ]
    refine next_till 9 (by kernel_rfl) rfl (fun K hK => ?_)
    go_simp
    refine A.mono ?_
    rintro e w2 ⟨rfl, hb2⟩
    have h2 := H1.out.2.2.1.below hb2
    refine hK.out _ _ (fun _ => ⟨h2.cel.cell 0, h2.cel.cell 1, h2.cel.cell 2, h2.cel.cell 3, h2.cel.cell 4⟩) ?_
    clear hK K hS A
    have hS : w2.cell? ⟨wb, 0, none⟩ = some (ptr tb) ∧ w2.cell? ⟨wb, 1, none⟩ = some (.int .i64 top.page) ∧ w2.cell? ⟨wb, 2, none⟩ = some (.int .i64 (top.lvl : Nat)) ∧ w2.cell? ⟨wb, 3, none⟩ = some (.slice tea top.ents.length tec) ∧ w2.cell? ⟨wb, 4, none⟩ = some (.slice tta top.to.length ttc) :=
      ⟨h2.cel.cell 0, h2.cel.cell 1, h2.cel.cell 2, h2.cel.cell 3, h2.cel.cell 4⟩
    have H2 := Lib.hid (And.intro h2 hb2)
    clear h2 hb2 s0 s1 s2 s3 s4
    refine next_till 10 (by kernel_rfl) rfl (fun K hK => ?_)
    go_simp
    refine hK.out _ _ (fun _ => hS) ?_
    clear hK K
    refine done_till (by kernel_rfl) ?_ _
    go_wp2
    go_ret2
    have hbel : Below w1.heap.size w1 w2 := ⟨H2.out.2.os, H2.out.2.tape, H2.out.2.output, H2.out.2.size, H2.out.2.block⟩
    exact ⟨rfl, H2.out.1, H1.out.2.1.trans (Step.of_below hbel S), (Step.trans (S := G) (S' := G) ⟨H1.out.2.2.2, fun _ h => .inl h⟩ (Step.of_below hbel G)).only⟩
end
end Go.Proofs.YtgekeemhbnhelaaGreat
