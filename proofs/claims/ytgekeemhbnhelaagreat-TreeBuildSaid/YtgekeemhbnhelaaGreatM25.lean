/- Whether a root and what else is handed in may be; a key's value: the walks of ready and Get; condition: the tree is whole, the power is on. -/
import Derived.Test.YtgekeemhbnhelaaGreatM16
import Derived.Test.YtgekeemhbnhelaaGreatM18
namespace Go.Proofs.YtgekeemhbnhelaaGreat
open Go.RowKit

/-- A root, its pairs and its pages. -/
structure Rt (B : Nat → Bytes) (N : Nat) (root : Int) (prs : List Pr) (pgs : List Nat) : Prop where
  at_ : (root = -1 ∧ prs = [] ∧ pgs = []) ∨ ∃ l k, Sub B N l k ∧ root = (k.page : Int) ∧ prs = k.prs ∧ pgs = k.pgs ∧ l ≤ 4096
  rise : RiseP prs
theorem Rt.congr {B B' : Nat → Bytes} {N : Nat} {root : Int} {prs : List Pr} {pgs : List Nat} (hk : ∀ q ∈ pgs, B' q = B q) (h : Rt B N root prs pgs) : Rt B' N root prs pgs := by
  refine ⟨?_, h.rise⟩
  rcases h.at_ with h | ⟨l, k, h1, h2, h3, h4, h5⟩
  · exact .inl h
  · exact .inr ⟨l, k, h1.congr (fun q hq => hk q (h4 ▸ hq)), h2, h3, h4, h5⟩

/-- May a root be asked, over so many pages? -/
def rootB (N : Nat) (root : Int) : Bool := decide (-1 ≤ root ∧ root < (N : Int))
theorem tready_any {tb db pb fr : Nat} {D : Dv} {ps : List Pg} {S : Nat → Prop} (root : Int) (b : Bool) (w : World) (h : TrS w tb db pb fr D ps S) :
    Calls Tryz.prog 42 #[ptr tb, .int .i64 root, .bool b] w fun e w' => e = .returned (err (if rootB ps.length root = true ∧ b = true then 0 else 1)) ∧ w = w' := by
  obtain ⟨F, G, h⟩ := h
  have t1 : w.cell? ⟨tb, 1, none⟩ = some (ptr pb) := h.tree.cell 1
  have P := pgsize_any h.pgs
  generalize hc : (if rootB ps.length root = true ∧ b = true then (0 : Int) else 1) = c
  have HC := Lib.hid hc
  clear h hc
  by_cases h1 : root < -1
  · have e1 : rootB ps.length root = false := by unfold rootB; simp; omega
    have HE := Lib.hid e1
    clear P e1
    go_enter Tryz.func42, Tryz.ntmps42
    go_wp2
    go_ret
    exact ⟨by rw [← HC.out, HE.out]; simp, rfl⟩
  · have h1' : (-1 : Int) ≤ root := by omega
    by_cases h2 : root < (ps.length : Int)
    · have e1 : rootB ps.length root = true := by unfold rootB; simp; omega
      have HE := Lib.hid e1
      have h2' : ¬ (ps.length : Int) ≤ root := by omega
      clear e1 h1
      rcases b with _ | _
      · go_enter Tryz.func42, Tryz.ntmps42
        go_wp2_with fail
        refine P.mono ?_
        rintro e w1 ⟨rfl, rfl⟩
        clear P
        go_wp2
        go_ret
        exact ⟨by rw [← HC.out]; simp, rfl⟩
      · go_enter Tryz.func42, Tryz.ntmps42
        go_wp2_with fail
        refine P.mono ?_
        rintro e w1 ⟨rfl, rfl⟩
        clear P
        go_wp2
        go_ret
        exact ⟨by rw [← HC.out, HE.out]; simp, rfl⟩
    · have e1 : rootB ps.length root = false := by unfold rootB; simp; omega
      have HE := Lib.hid e1
      have h2' : (ps.length : Int) ≤ root := by omega
      clear e1 h1 h2
      go_enter Tryz.func42, Tryz.ntmps42
      go_wp2_with fail
      refine P.mono ?_
      rintro e w1 ⟨rfl, rfl⟩
      clear P
      go_wp2
      go_ret
      exact ⟨by rw [← HC.out, HE.out]; simp, rfl⟩

/-- What Get answers of these pairs. -/
def Gets (w : World) (S : Nat → Prop) (prs : List Pr) (key : Bytes) (e : Ending) (w' : World) : Prop :=
  ∃ v, e = .returned (.tuple #[v, .bool (lookP prs key).isSome, err 0]) ∧ Bsf w' S v ((lookP prs key).getD []) ∧ Below w.heap.size w w'

/-- A node on the way to a key. -/
structure GetR (S : Nat → Prop) (B : Nat → Bytes) (N : Nat) (key : Bytes) (all : List Pr) (nb : Nat) (wr : World) (l : Nat) (pg : Int) (es : List En) (to : Bytes) (prs : List Pr) (pgs : List Nat) (ev tv : Value) : Prop where
  cel : Cel wr nb [.int .i64 pg, .int .i64 (l : Int), ev, tv] 85
  rd : Rd kdEn wr S ev es
  ends : Bsf wr S tv to
  held : Nb B N l es prs pgs
  ok : l = 0 ∧ es = [] ∨ NdOk N l es
  rise : RiseP prs
  und : Under prs to
  look : lookP all key = lookP prs key
  few : l ≤ 4096

set_option maxRecDepth 100000 in
set_option maxHeartbeats 2000000 in
/-- From the top's node on. -/
theorem get_node {tb db pb fr : Nat} {D : Dv} {ps : List Pg} {S : Nat → Prop} {kv : Value} {n : Nd} {all : List Pr} {pgs : List Nat} {root : Int} {key : Bytes} (w : World) (h : TrS w tb db pb fr D ps S) (ho : D.on = true)
    (hroot : rootB ps.length root = true) (hkey : Bsf w S kv key) (hmay : mayK key = true)
    (T : Calls Tryz.prog 44 #[ptr tb, .int .i64 root] w fun e w' => ∃ nv, e = .returned (.tuple #[nv, err 0]) ∧ Nv w' S nv n ∧ Below w.heap.size w w')
    (hnb : Nb (blkOf D fr) ps.length n.lvl n.ents all pgs) (hok : n.lvl = 0 ∧ n.ents = [] ∨ NdOk ps.length n.lvl n.ents) (hr : RiseP all) (hto : n.to = []) (hl : n.lvl ≤ 4096) :
    Calls Tryz.prog 13 #[ptr tb, .int .i64 root, kv] w (Gets w S all key) := by
  have K := mayKey_any w hkey.1
  have R := tready_any root true w h
  rw [hmay] at K
  rw [hroot] at R
  have HH := Lib.hid (And.intro h (And.intro hkey (And.intro hnb (And.intro hok (And.intro hr (And.intro hto hl))))))
  clear h hkey hnb hok hr hto hl hmay hroot
  go_enter Tryz.func13, Tryz.ntmps13
  go_wp2_with fail
  refine K.mono ?_
  rintro e w1 ⟨rfl, rfl⟩
  clear K
  go_wp2_with fail
  refine R.mono ?_
  rintro e w1 ⟨rfl, rfl⟩
  clear R
  go_wp2_with fail
  refine T.mono ?_
  rintro e w1 ⟨nv, rfl, hn, hb1⟩
  clear T
  obtain ⟨h, hkey, hnb, hok, hr, hto, hl⟩ := HH.out
  obtain ⟨ea, ec, ta, tc, rfl, hne, hnt⟩ := hn
  obtain ⟨npg, nl, nes, nto⟩ := n
  simp only at hto hl hnb hok hne hnt
  subst hto
  have hz1 := hb1.size
  have hbw2 := hb1.alloc hb1.size (.cells #[.int .i64 npg, .int .i64 (nl : Int), .slice ea nes.length ec, .slice ta 0 tc] 85)
  have hstart : GetR (fun q => S q ∨ q = w1.heap.size) (blkOf D fr) ps.length key all w1.heap.size (w1.alloc (.cells #[.int .i64 npg, .int .i64 (nl : Int), .slice ea nes.length ec, .slice ta 0 tc] 85)) nl npg nes [] all pgs (.slice ea nes.length ec) (.slice ta 0 tc) := by
    have st : Step S w1 (w1.alloc (.cells #[.int .i64 npg, .int .i64 (nl : Int), .slice ea nes.length ec, .slice ta 0 tc] 85)) (fun q => S q ∨ q = w1.heap.size) := ⟨(Only.refl _ _).alloc _, fun q hq => hq.elim .inl fun e => .inr (by omega)⟩
    exact ⟨Cel.new w1 _ _, hne.step st, hnt.step st, hnb, hok, hr, .inl rfl, rfl, hl⟩
  have H1 := Lib.hid (And.intro hstart (And.intro hbw2 (And.intro h (And.intro hkey hz1))))
  clear h hkey hnb hok hr hne hnt hz1 hbw2 hstart hb1 HH hl
  go_wp2
  go_loopw [8] (fun e wr => e = err 0 ∧ (∃ l pg es to prs pgs ev tv, GetR (fun q => S q ∨ q = w1.heap.size) (blkOf D fr) ps.length key all w1.heap.size wr l pg es to prs pgs ev tv) ∧ Below w.heap.size w wr) (fun _ wr => mLv w1.heap.size wr)
  case atStart => exact ⟨rfl, ⟨_, _, _, _, _, _, _, _, H1.out.1⟩, H1.out.2.1⟩
  case round =>
    obtain ⟨rfl, ⟨l', pg', es', to', prs', pgs', ev', tv', hR⟩, hbr⟩ := hrel
    obtain ⟨ea', ec', rfl, _⟩ := hR.rd.shape
    obtain ⟨ta', tc', rfl, _⟩ := hR.ends.1.shape
    have n1 : wr.cell? ⟨w1.heap.size, 1, none⟩ = some (.int .i64 (l' : Int)) := hR.cel.cell 1
    rcases l' with _ | m
    · obtain ⟨hes, -⟩ := Nb.zero.1 hR.held
      have n0 : wr.cell? ⟨w1.heap.size, 0, none⟩ = some (.int .i64 pg') := hR.cel.cell 0
      have n1 : wr.cell? ⟨w1.heap.size, 1, none⟩ = some (.int .i64 0) := hR.cel.cell 1
      have n2 : wr.cell? ⟨w1.heap.size, 2, none⟩ = some (.slice ea' es'.length ec') := hR.cel.cell 2
      have n3 : wr.cell? ⟨w1.heap.size, 3, none⟩ = some (.slice ta' to'.length tc') := hR.cel.cell 3
      have hlen : es'.length ≤ 4294967296 := by
        rcases hR.ok with h | h
        · rw [h.2]; simp
        · have := h.1.few; omega
      have hre : RiseE es' := by rw [hes]; exact List.pairwise_map.2 hR.rise
      have F := find_any (p := pg') (l := 0) (tv := .slice ta' to'.length tc') wr hR.rd (H1.out.2.2.2.1.1.below hbr) hre hlen
      obtain ⟨lf1, lf2⟩ := leaf_find (key := key) hR.rise
      rw [← hR.look, ← hes] at lf1 lf2
      have H2 := Lib.hid (And.intro hR (And.intro hbr (And.intro lf1 (And.intro lf2 hes))))
      clear hR hbr lf1 lf2 hre hlen hes
      rcases hfb : fndIs es' key with _ | _
      · rw [hfb] at F
        have HB := Lib.hid hfb
        clear hfb
        go_wp2_with fail
        refine F.mono ?_
        rintro e w3 ⟨rfl, hb3⟩
        clear F
        have H3 := Lib.hid hb3
        clear hb3
        go_wp2
        go_ret3
        obtain ⟨hR, hbr, lf1, lf2, hes⟩ := H2.out
        refine ⟨.slice none 0 0, ?_, ?_, hbr.trans (H3.out.mono hbr.size)⟩
        · rw [lf2 HB.out]; rfl
        · rw [lf2 HB.out]; exact Bsf.nil _ _
      · rw [hfb] at F
        obtain ⟨v, hv, hlk⟩ := H2.out.2.2.1 hfb
        have hef : es'[fnd es' key]? = some (prE (key, v)) := by
          conv => lhs; rw [H2.out.2.2.2.2]
          rw [H2.out.2.2.2.2] at hv
          simp [H2.out.2.2.2.2, hv]
        have hfl := (List.getElem?_eq_some_iff.1 hef).1
        generalize fnd es' key = fi at *
        have hfil : (fi : Int) < (es'.length : Int) := by omega
        have HB := Lib.hid (And.intro hlk hef)
        clear hfb hlk hef hv
        go_wp2_with fail
        refine F.mono ?_
        rintro e w3 ⟨rfl, hb3⟩
        clear F
        have hrd3 := H2.out.1.rd.step (Step.of_below hb3 _)
        obtain ⟨g, o, cap, ka, kc, va, vc, e0, hg, k0, k1, k2, hka, hva⟩ := hrd3.ent HB.out.2
        simp only [Value.slice.injEq] at e0
        obtain ⟨rfl, _, rfl⟩ := e0
        have C3 := H2.out.1.cel.below hb3 H2.out.1.cel.lt
        have m2 : w3.cell? ⟨w1.heap.size, 2, none⟩ = some (.slice (some ⟨g, o, none⟩) es'.length ec') := C3.cell 2
        have H3 := Lib.hid (And.intro hb3 hva)
        clear hb3 hrd3 hka hva C3
        go_wp2
        go_ret3
        obtain ⟨hR, hbr, lf1, lf2, hes⟩ := H2.out
        have hf0 := hbr.trans (H3.out.1.mono hbr.size)
        refine ⟨.slice va v.length vc, ?_, ?_, hf0⟩
        · rw [HB.out.1]; rfl
        · rw [HB.out.1]
          exact H3.out.2.step ⟨Only.refl _ _, fun q hq => .inl (.inl hq)⟩
    · have hgo : (0 : Int) < ((m + 1 : Nat) : Int) := by omega
      obtain ⟨kids, rfl, rfl, rfl, hsub⟩ := Nb.succ.1 hR.held
      obtain ⟨lm, hlm⟩ : ∃ lm : Int, lm = (m : Int) + 1 := ⟨_, rfl⟩
      obtain ⟨en', hen⟩ : ∃ en', en' = (kids.map kidE).length := ⟨_, rfl⟩
      have hok : NdOk ps.length (m + 1) (kids.map kidE) := hR.ok.resolve_left (fun h => by omega)
      have hcel : Cel wr w1.heap.size [.int .i64 pg', .int .i64 lm, .slice ea' en' ec', .slice ta' to'.length tc'] 85 := by
        rw [hlm, hen]
        exact hR.cel
      have hzn : w1.heap.size < wr.heap.size := hcel.lt
      have hd1 : Below wr.heap.size wr wr.drew := (Below.refl _ _).drew
      have FF : ∀ W, Below wr.heap.size wr W → W.cell? ⟨w1.heap.size, 0, none⟩ = some (.int .i64 pg') ∧ W.cell? ⟨w1.heap.size, 1, none⟩ = some (.int .i64 lm) ∧ W.cell? ⟨w1.heap.size, 2, none⟩ = some (.slice ea' en' ec') ∧ W.cell? ⟨w1.heap.size, 3, none⟩ = some (.slice ta' to'.length tc') := fun W hb =>
        ⟨(hb.cell (p := ⟨w1.heap.size, 0, none⟩) hzn).trans (hcel.cell 0), (hb.cell (p := ⟨w1.heap.size, 1, none⟩) hzn).trans (hcel.cell 1), (hb.cell (p := ⟨w1.heap.size, 2, none⟩) hzn).trans (hcel.cell 2), (hb.cell (p := ⟨w1.heap.size, 3, none⟩) hzn).trans (hcel.cell 3)⟩
      have hTS : TrS wr tb db pb fr D ps (fun q => S q ∨ q = w1.heap.size) := (H1.out.2.2.1.below hbr).more (fun q h => .inl h) (fun q hq => hq.elim ((H1.out.2.2.1.below hbr).lt q) (fun e => by rw [e]; exact hzn)) (fun hq => hq.elim H1.out.2.2.1.tlt.2 (fun e => by have := H1.out.2.2.1.tlt.1; have := H1.out.2.2.2.2; omega))
      have hlen := hok.1.few
      have WW := fun (W : World) (hb : Below wr.heap.size wr W) => way_any (p := pg') (l := lm) (tv := .slice ta' to'.length tc') W (hR.rd.step (Step.of_below hb _)) (H1.out.2.2.2.1.1.below (hbr.trans (hb.mono hbr.size))) hok.1.2.2.1 (by omega)
      have hkne : kids ≠ [] := fun e => hok.1.1 (by rw [e]; rfl)
      obtain ⟨kd, hkd, hsp, hA, hC⟩ := split_way (key := key) hsub hR.rise hok.1.2.2.1 hkne
      obtain ⟨ces, cpg, g1, g2, g3, g4, g5, g6, g7, g8, g9, g10⟩ := kid_facts hsub hR.rise hR.und hkd
      have hmf := hR.few
      have CC := fun (W : World) (hb : Below wr.heap.size wr W) => child_any (p := pg') W hlm (hTS.below hb) ho (hR.rd.step (Step.of_below hb _)) (hR.ends.step (Step.of_below hb _)) g6 g5 (by omega) g1 g2 g7 g8
      have hlook : lookP all key = lookP kd.prs key := by
        rw [hR.look]
        conv => lhs; rw [hsp]
        rw [List.flatMap_append, List.flatMap_cons, ← List.append_assoc]
        exact lookP_mid hA hC
      rw [← hen] at WW CC
      have hi1 : (0 : Int) < lm := by omega
      have n1' := (FF wr (Below.refl _ _)).2.1
      have HX := Lib.hid (fun (W : World) (hW : W.cell? ⟨w1.heap.size, 0, none⟩ = some (.int .i64 pg') ∧ W.cell? ⟨w1.heap.size, 1, none⟩ = some (.int .i64 lm) ∧ W.cell? ⟨w1.heap.size, 2, none⟩ = some (.slice ea' en' ec') ∧ W.cell? ⟨w1.heap.size, 3, none⟩ = some (.slice ta' to'.length tc')) => hW)
      have HF := Lib.hid (And.intro FF (And.intro WW CC))
      have H2 := Lib.hid (And.intro hcel (And.intro hbr (And.intro g1 (And.intro g3 (And.intro g9 (And.intro g10 (And.intro hlook (And.intro (show m ≤ 4096 by omega) hlm))))))))
      clear hR hcel FF hTS WW CC g1 g2 g3 g4 g5 g6 g7 g8 g9 g10 hbr hsub hkd hen hlm hok hgo n1 hlook hsp hA hC hkne
      generalize way (kids.map kidE) key = wy at *
      have hS0 := HF.out.1 _ hd1
      go_wp2_with fail
      refine region_upto 9 (fun W => W.cell? ⟨w1.heap.size, 0, none⟩ = some (.int .i64 pg') ∧ W.cell? ⟨w1.heap.size, 1, none⟩ = some (.int .i64 lm) ∧ W.cell? ⟨w1.heap.size, 2, none⟩ = some (.slice ea' en' ec') ∧ W.cell? ⟨w1.heap.size, 3, none⟩ = some (.slice ta' to'.length tc')) (by kernel_rfl) hS0 (fun hS => ?_)
      refine pure_upto (i := 0) (some 34) (ptr tb) rfl rfl (by kernel_rfl) (by kernel_rfl) (by kernel_rfl) (by decide) (fun _ _ _ h => h) (by rfl) (fun W => ?_) (fun _ => hS) ?_
      · go_simp
      simp only [Act.put, List.setIfInBounds_toArray, List.set_cons_zero, List.set_cons_succ]
      refine take_upto (i := 1) (some 35) (ndv pg' lm (.slice ea' en' ec') (.slice ta' to'.length tc')) rfl rfl (by kernel_rfl) (by kernel_rfl) (by kernel_rfl) (by kernel_rfl) (by kernel_rfl) (by decide) (fun _ _ _ h => h) (by rfl) (fun W hW => ?_) hS ?_
      · have hx := HX.out W hW
        clear hW
        go_simp
      simp only [Act.put, List.setIfInBounds_toArray, List.set_cons_zero, List.set_cons_succ]
      refine take_upto (i := 2) (some 36) (ndv pg' lm (.slice ea' en' ec') (.slice ta' to'.length tc')) rfl rfl (by kernel_rfl) (by kernel_rfl) (by kernel_rfl) (by kernel_rfl) (by kernel_rfl) (by decide) (fun _ _ _ h => h) (by rfl) (fun W hW => ?_) hS ?_
      · have hx := HX.out W hW
        clear hW
        go_simp
      simp only [Act.put, List.setIfInBounds_toArray, List.set_cons_zero, List.set_cons_succ]
      refine pure_upto (i := 3) (some 37) (kv) rfl rfl (by kernel_rfl) (by kernel_rfl) (by kernel_rfl) (by decide) (fun _ _ _ h => h) (by rfl) (fun W => ?_) (fun _ => hS) ?_
      · go_simp
      simp only [Act.put, List.setIfInBounds_toArray, List.set_cons_zero, List.set_cons_succ]
      refine next_upto 4 (by kernel_rfl) rfl (fun K hK => ?_)
      go_simp
      refine (HF.out.2.1 _ hd1).mono ?_
      rintro e w6 ⟨rfl, hb6⟩
      have hd3 := hd1.trans (hb6.mono hd1.size)
      refine hK.out _ _ (fun _ => HF.out.1 _ hd3) ?_
      clear hK K hS
      have hS := HF.out.1 _ hd3
      refine next_upto 5 (by kernel_rfl) rfl (fun K hK => ?_)
      go_simp
      refine (HF.out.2.2 _ hd3).mono ?_
      rintro e w7 ⟨cv, rfl, hcn, hb7⟩
      have hd4 := hd3.trans (hb7.mono hd3.size)
      refine hK.out _ _ (fun _ => HF.out.1 _ hd4) ?_
      clear hK K hS
      have hS := HF.out.1 _ hd4
      obtain ⟨ca, cc, ua, uc, rfl, hce, hcu⟩ := hcn
      refine pure_upto (i := 6) (some 33) (.tuple #[ndv ((kidE kd).page : Int) (m : Int) (.slice ca ces.length cc) (.slice ua (endK (kids.map kidE) to' wy).length uc), err 0]) rfl rfl (by kernel_rfl) (by kernel_rfl) (by kernel_rfl) (by decide) (fun _ _ _ h => h) (by rfl) (fun W => ?_) (fun _ => hS) ?_
      · go_simp
      simp only [Act.put, List.setIfInBounds_toArray, List.set_cons_zero, List.set_cons_succ]
      refine pure_upto (i := 7) (some 40) (ndv ((kidE kd).page : Int) (m : Int) (.slice ca ces.length cc) (.slice ua (endK (kids.map kidE) to' wy).length uc)) rfl rfl (by kernel_rfl) (by kernel_rfl) (by kernel_rfl) (by decide) (fun _ _ _ h => h) (by rfl) (fun W => ?_) (fun _ => hS) ?_
      · go_simp
      simp only [Act.put, List.setIfInBounds_toArray, List.set_cons_zero, List.set_cons_succ]
      refine pure_upto (i := 8) (some 41) (err 0) rfl rfl (by kernel_rfl) (by kernel_rfl) (by kernel_rfl) (by decide) (fun _ _ _ h => h) (by rfl) (fun W => ?_) (fun _ => hS) ?_
      · go_simp
      simp only [Act.put, List.setIfInBounds_toArray, List.set_cons_zero, List.set_cons_succ]
      obtain ⟨hcel, hbr, g1, g3, g9, g10, hlook, hm4, hlm⟩ := H2.out
      have hbw3 := hbr.trans (hd4.mono hbr.size)
      have C9 := hcel.below hd4 hzn
      have f0 := C9.frozen 0
      have f1 := C9.frozen 1
      have f2 := C9.frozen 2
      have f3 := C9.frozen 3
      obtain ⟨s0, s1, s2, s3⟩ := hS
      have H3 := Lib.hid (And.intro hbw3 (And.intro C9 (And.intro hce hcu)))
      clear hcel hbr g1 g3 g9 g10 hlook hm4 hlm hbw3 C9 hce hcu hd1 hd3 hd4 hb6 hb7
      refine next_upto 9 (by kernel_rfl) rfl (fun K hK => ?_)
      go_simp
      refine hK.out _ _ (fun h => Bool.noConfusion (show true = false from h)) ?_
      clear hK K
      refine next_upto 10 (by kernel_rfl) rfl (fun K hK => ?_)
      go_simp
      refine hK.out _ _ (fun h => Bool.noConfusion (show true = false from h)) ?_
      clear hK K
      refine done_upto (by kernel_rfl) ?_ _
      go_wp2
      obtain ⟨hcel, hbr, g1, g3, g9, g10, hlook, hm4, hlm⟩ := H2.out
      obtain ⟨hbw3, C9, hce, hcu⟩ := H3.out
      have CF := (((C9.set 0 (.int .i64 (kd.page : Int))).set 1 (.int .i64 (m : Int))).set 2 (.slice ca ces.length cc)).set 3 (.slice ua (endK (kids.map kidE) to' wy).length uc)
      have st1 := ((((Step.refl (fun q => S q ∨ q = w1.heap.size) w7).set (p := ⟨w1.heap.size, 0, none⟩) (.inr rfl) (.int .i64 (kd.page : Int))).set (p := ⟨w1.heap.size, 1, none⟩) (.inr rfl) (.int .i64 (m : Int))).set (p := ⟨w1.heap.size, 2, none⟩) (.inr rfl) (.slice ca ces.length cc)).set (p := ⟨w1.heap.size, 3, none⟩) (.inr rfl) (.slice ua (endK (kids.map kidE) to' wy).length uc)
      refine ⟨⟨rfl, ⟨m, kd.page, ces, endK (kids.map kidE) to' wy, kd.prs, cpg, _, _, ⟨CF, hce.step st1, hcu.step st1, g3, .inr g1, g9, g10, hlook, hm4⟩⟩, ?_⟩, ?_⟩
      · have hz1 := H1.out.2.2.2.2
        exact (((hbw3.setCell (p := ⟨w1.heap.size, 0, none⟩) hz1 (.int .i64 (kd.page : Int))).setCell (p := ⟨w1.heap.size, 1, none⟩) hz1 (.int .i64 (m : Int))).setCell (p := ⟨w1.heap.size, 2, none⟩) hz1 (.slice ca ces.length cc)).setCell (p := ⟨w1.heap.size, 3, none⟩) hz1 (.slice ua (endK (kids.map kidE) to' wy).length uc)
      · have e1 : mLv w1.heap.size wr = m + 1 := mLv_of (by rw [n1', hlm]; norm_cast)
        have e2 := mLv_of (g := w1.heap.size) (l := m) (CF.cell 1)
        exact Nat.lt_of_le_of_lt (Nat.le_of_eq e2) (by omega)

/-- top of a root: its node. -/
theorem top_rt {tb db pb fr : Nat} {D : Dv} {ps : List Pg} {S : Nat → Prop} {prs : List Pr} {pgs : List Nat} {root : Int} (w : World) (h : TrS w tb db pb fr D ps S) (ho : D.on = true) (hrt : Rt (blkOf D fr) ps.length root prs pgs) :
    ∃ (n : Nd) (cpg : List Nat), (Calls Tryz.prog 44 #[ptr tb, .int .i64 root] w fun e w' => ∃ nv, e = .returned (.tuple #[nv, err 0]) ∧ Nv w' S nv n ∧ Below w.heap.size w w') ∧
      Nb (blkOf D fr) ps.length n.lvl n.ents prs cpg ∧ n.to = [] ∧ n.lvl ≤ 4096 ∧ rootB ps.length root = true ∧
      ((n.page = -1 ∧ n.lvl = 0 ∧ n.ents = [] ∧ prs = [] ∧ pgs = [] ∧ cpg = [] ∧ root = -1) ∨ (NdOk ps.length n.lvl n.ents ∧ n.page = root ∧ ∃ k : Nat, root = (k : Int) ∧ k < ps.length ∧ pgs = k :: cpg ∧ Sub (blkOf D fr) ps.length n.lvl ⟨(n.ents.head?.map En.key).getD [], k, prs, pgs⟩)) := by
  rcases hrt.at_ with ⟨rfl, rfl, rfl⟩ | ⟨l, k, hs, rfl, rfl, rfl, hl⟩
  · refine ⟨⟨-1, 0, [], []⟩, [], (top_none w).mono ?_, Nb.zero.2 ⟨rfl, rfl⟩, rfl, Nat.zero_le _, ?_, .inl ⟨rfl, rfl, rfl, rfl, rfl, rfl, rfl⟩⟩
    · rintro e w' ⟨rfl, hb⟩
      exact ⟨_, rfl, Nv.of (n := ⟨-1, 0, [], []⟩) (Rd.nil kdEn _ _) (Bsf.nil _ _), hb⟩
    · unfold rootB; simp; omega
  · obtain ⟨ces, cpg, g1, g2, g3, g4, g5, g6⟩ := hs
    refine ⟨⟨k.page, l, ces, []⟩, cpg, top_page w h ho g6 hl g1 g2, g3, rfl, hl, ?_, .inr ⟨g1, rfl, k.page, rfl, g6, g4, ⟨ces, cpg, g1, g2, g3, g4, ?_, g6⟩⟩⟩
    · unfold rootB; simp; omega
    · show _ = some ((ces.head?.map En.key).getD [])
      rw [g5]
      rfl

theorem get_any {tb db pb fr : Nat} {D : Dv} {ps : List Pg} {S : Nat → Prop} {kv : Value} {prs : List Pr} {pgs : List Nat} {root : Int} {key : Bytes} (w : World) (h : TrS w tb db pb fr D ps S) (ho : D.on = true)
    (hrt : Rt (blkOf D fr) ps.length root prs pgs) (hkey : Bsf w S kv key) (hmay : mayK key = true) :
    Calls Tryz.prog 13 #[ptr tb, .int .i64 root, kv] w (Gets w S prs key) := by
  obtain ⟨n, cpg, hT, hnb, hto, hl, hrb, hc⟩ := top_rt w h ho hrt
  refine get_node w h ho hrb hkey hmay hT hnb ?_ hrt.rise hto hl
  rcases hc with h | h
  · exact .inl ⟨h.2.1, h.2.2.1⟩
  · exact .inr h.1
/-- A key that may not be, or a root that is none. -/
theorem get_arg {tb db pb fr : Nat} {D : Dv} {ps : List Pg} {S : Nat → Prop} {kv : Value} {root : Int} {key : Bytes} (w : World) (h : TrS w tb db pb fr D ps S) (hkey : Bs w kv key) (hmay : ¬ (rootB ps.length root = true ∧ mayK key = true)) :
    Calls Tryz.prog 13 #[ptr tb, .int .i64 root, kv] w fun e w' => e = .returned (.tuple #[.slice none 0 0, .bool false, err 1]) ∧ w = w' := by
  have K := mayKey_any w hkey
  have R := tready_any root (mayK key) w h
  rw [if_neg hmay] at R
  clear h hkey hmay
  go_enter Tryz.func13, Tryz.ntmps13
  go_wp2_with fail
  refine K.mono ?_
  rintro e w1 ⟨rfl, rfl⟩
  clear K
  go_wp2_with fail
  refine R.mono ?_
  rintro e w1 ⟨rfl, rfl⟩
  clear R
  go_wp2
  go_ret3
  exact ⟨rfl, rfl⟩
end Go.Proofs.YtgekeemhbnhelaaGreat
