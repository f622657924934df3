/- What a call does to the pages, as it lies in memory: the tree, its device and pages, what was taken, what is to be written there, what is left; no condition. -/
import Derived.Test.YtgkofgifoiinkaaGreatN13
import Derived.Test.YtgkofgifoiinkaaGreatN03
import Derived.Lib.AppendZeros
import Derived.StillTailTactics
namespace Go.Proofs.YtgkofgifoiinkaaGreat
open Go.RowKit
def mLv (g:Nat) (w:World):Nat:=match w.cell? ⟨g,1,none⟩ with | some v=>(intOf v).toNat | none=>0
theorem mLv_of {g l:Nat} {w:World} (h:w.cell? ⟨g,1,none⟩=some (.int .i64 (l:Int))):mLv g w=l:=by
 unfold mLv
 rw [h]
 simp [intOf]
theorem has_none {tb:Nat} {ev tv:Value} {l:Int} (k:Nat) (w:World):Calls Tryz.prog 217 #[ptr tb,ndv (-1) l ev tv, .int .i64 (k:Int)] w fun e w'=>e = .returned (.bool false)∧Below w.heap.size w w':=by
 have hb0:Below w.heap.size w (w.alloc (.cells #[.int .i64 (-1), .int .i64 l,ev,tv] 179)):=(Below.refl _ _).alloc (Nat.le_refl _) _
 have HB:=Lib.hid hb0
 clear hb0
 go_enter Tryz.func217,Tryz.ntmps217
 go_wp2
 go_ret
 exact ⟨rfl,HB.out⟩
structure HasR (S:Nat→Prop) (B:Nat→Bytes) (N k nb:Nat) (wr:World) (l:Nat) (pg:Nat) (es:List En) (toZ:Bytes) (prs:List Pr) (pgs:List Nat) (ev tv:Value):Prop where
 cel:Cel wr nb [.int .i64 (pg:Int), .int .i64 (l:Int),ev,tv] 179
 rd:Rd kdEn wr S ev es
 ends:Bsf wr S tv toZ
 held:Nb B N l es prs pgs
 ok:NdOk N l es
 rise:RiseP prs
 und:Under prs toZ
 ne:pg≠k
 out:k ∉ pgs
 few:l≤4096
set_option maxRecDepth 100000 in
set_option maxHeartbeats 2000000 in
theorem has_node {tb db pb fr:Nat} {D:Dv} {ps:List Pg} {S:Nat→Prop} {ev tv:Value} {es:List En} {toZ:Bytes} {l pg k:Nat} {prs:List Pr} {pgs:List Nat} (w:World) (h:TrS w tb db pb fr D ps S) (ho:D.on=true)
  (he:Rd kdEn w S ev es) (ht:Bsf w S tv toZ) (hnb:Nb (blkOf D fr) ps.length l es prs pgs) (hok:NdOk ps.length l es) (hr:RiseP prs) (hu:Under prs toZ) (hne:pg≠k) (hk:k ∉ pgs) (hkl:k < ps.length) (hl:l≤4096) :
  Calls Tryz.prog 217 #[ptr tb,ndv (pg:Int) (l:Int) ev tv, .int .i64 (k:Int)] w fun e w'=>e = .returned (.bool false)∧Below w.heap.size w w':=by
 have hb0:Below w.heap.size w (w.alloc (.cells #[.int .i64 (pg:Int), .int .i64 (l:Int),ev,tv] 179)):=(Below.refl _ _).alloc (Nat.le_refl _) _
 have C0:Cel (w.alloc (.cells #[.int .i64 (pg:Int), .int .i64 (l:Int),ev,tv] 179)) w.heap.size [.int .i64 (pg:Int), .int .i64 (l:Int),ev,tv] 179:=Cel.new w _ _
 have hTS:=(h.below hb0).more (S':=fun q=>S q∨q=w.heap.size) (fun q h=>.inl h) (fun q hq=>hq.elim ((h.below hb0).lt q) (fun e=>by rw [e]; exact C0.lt)) (fun hq=>hq.elim h.tlt.2 (fun e=>by have:=h.tlt.1; omega))
 have R:=tread_any _ hTS ho k hkl
 obtain ⟨ea,ec,rfl,_⟩:=he.shape
 obtain ⟨ta,tc,rfl,_⟩:=ht.1.shape
 have hni:((pg:Int) == -1)=false:=by rw [beq_eq_false_iff_ne]; omega
 have HH:=Lib.hid (anZ h (anZ he (anZ ht (anZ hnb (anZ hok (anZ hr (anZ hu (anZ hne (anZ hk (anZ hb0 (anZ C0 hTS)))))))))))
 clear h he ht hnb hok hr hu hne hk hb0 C0 hTS
 go_enter Tryz.func217,Tryz.ntmps217
 go_wp2_with fail
 refine R.mono ?_
 rintro e w1 ⟨nv,r,rfl,hs,hn,hb1⟩
 clear R
 obtain ⟨h,he,ht,hnb,hok,hr,hu,hne,hk,hb0,C0,hTS⟩:=HH.out
 have hbw:=hb0.trans (hb1.mono hb0.size)
 have C1:=C0.below hb1 C0.lt
 have hz1:=C1.lt
 rcases r with _ | ⟨ol,oes⟩
 ·obtain ⟨oa,oc,da,dc,rfl,hoe,hod⟩:=hn
  have HB:=Lib.hid hbw
  clear h he ht hnb hok hr hu hne hk hb0 C0 hTS hbw C1 hoe hod hb1
  simp only [Option.isSome]
  go_wp2
  go_loopw [8] (fun e wr=>e=err 9∧Below w.heap.size w wr) (fun _ _=>0)
  case atStart=>exact ⟨rfl,HB.out.alloc HB.out.size _⟩
  case round =>
   obtain ⟨rfl,hb2⟩:=hrel
   go_wp2
   go_ret
   exact ⟨rfl,hb2⟩
 ·obtain ⟨oa,oc,da,dc,rfl,hoe,hod⟩:=hn
  have hbc:Below w1.heap.size w1 (w1.alloc (.cells #[.int .i64 (k:Int), .int .i64 (ol:Int), .slice oa oes.length oc, .slice da 0 dc] 179)):=(Below.refl _ _).alloc (Nat.le_refl _) _
  have CO:Cel (w1.alloc (.cells #[.int .i64 (k:Int), .int .i64 (ol:Int), .slice oa oes.length oc, .slice da 0 dc] 179)) w1.heap.size [.int .i64 (k:Int), .int .i64 (ol:Int), .slice oa oes.length oc, .slice da 0 dc] 179:=Cel.new w1 _ _
  have hoes:oes≠[]:=hs.2.2.2.2.2.1
  have hol:ol < 65536:=by
   rw [hs.2.2.2.1]
   have:=beNat_lt ((openV (blkOf D fr k)).2.1.take 2)
   have h2:((openV (blkOf D fr k)).2.1.take 2).length≤2:=by rw [List.length_take]; exact Nat.min_le_left _ _
   exact Nat.lt_of_lt_of_le this (Nat.pow_le_pow_right (by decide) h2)
  have hstart:HasR (fun q=>S q∨q=w.heap.size) (blkOf D fr) ps.length k w.heap.size (w1.alloc (.cells #[.int .i64 (k:Int), .int .i64 (ol:Int), .slice oa oes.length oc, .slice da 0 dc] 179)) l pg es toZ prs pgs (.slice ea es.length ec) (.slice ta toZ.length tc):=by
   have st:Step S w (w1.alloc (.cells #[.int .i64 (k:Int), .int .i64 (ol:Int), .slice oa oes.length oc, .slice da 0 dc] 179)) (fun q=>S q∨q=w.heap.size):=⟨Only.of_below (hbw.alloc hbw.size _) S,fun q hq=>hq.elim .inl fun e=>.inr (by omega)⟩
   exact ⟨C1.alloc _,he.step st,ht.step st,hnb,hok,hr,hu,hne,hk,hl⟩
  have hbw2:=hbw.alloc hbw.size (.cells #[.int .i64 (k:Int), .int .i64 (ol:Int), .slice oa oes.length oc, .slice da 0 dc] 179)
  have hoe2:=hoe.step (Step.of_below hbc (fun q=>S q∨q=w.heap.size))
  have hltw:w.heap.size < (w1.alloc (.cells #[.int .i64 (k:Int), .int .i64 (ol:Int), .slice oa oes.length oc, .slice da 0 dc] 179)).heap.size:=Nat.lt_of_lt_of_le hz1 hbc.size
  have H1:=Lib.hid (anZ hstart (anZ hbw2 (anZ CO (anZ hoe2 (anZ hoes (anZ h hltw))))))
  clear h he ht hnb hok hr hu hne hk hb0 C0 hTS hbw C1 hoe hod hb1 hbc CO hoes hstart hbw2 hoe2 hs HH hltw
  simp only [Option.isSome]
  go_wp2
  go_loopw [8] (fun e wr=>e=err 0∧(∃ l pg es toZ prs pgs ev tv,HasR (fun q=>S q∨q=w.heap.size) (blkOf D fr) ps.length k w.heap.size wr l pg es toZ prs pgs ev tv)∧Below w.heap.size w wr ∧
   Step (fun q=>q=w.heap.size) (w1.alloc (.cells #[.int .i64 (k:Int), .int .i64 (ol:Int), .slice oa oes.length oc, .slice da 0 dc] 179)) wr (fun q=>q=w.heap.size)) (fun _ wr=>mLv w.heap.size wr)
  case atStart=>exact ⟨rfl,⟨_,_,_,_,_,_,_,_,H1.out.1⟩,H1.out.2.1,Step.refl _ _⟩
  case round =>
   obtain ⟨rfl,⟨l',pg',es',to',prs',pgs',ev',tv',hR⟩,hbr,hst⟩:=hrel
   obtain ⟨ea',ec',rfl,_⟩:=hR.rd.shape
   obtain ⟨ta',tc',rfl,_⟩:=hR.ends.1.shape
   have COr:Cel wr w1.heap.size [.int .i64 (k:Int), .int .i64 (ol:Int), .slice oa oes.length oc, .slice da 0 dc] 179:=H1.out.2.2.1.only hst.only (by omega)
   have n1:wr.cell? ⟨w.heap.size,1,none⟩=some (.int .i64 (l':Int)):=hR.cel.cell 1
   have o1:wr.cell? ⟨w1.heap.size,1,none⟩=some (.int .i64 (ol:Int)):=COr.cell 1
   by_cases hgo:ol < l'
   ·obtain ⟨m,rfl⟩:∃ m,l'=m+1:=⟨l'-1,by omega⟩
    obtain ⟨kids,rfl,rfl,rfl,hsub⟩:=Nb.succ.1 hR.held
    obtain ⟨lm,hlm⟩:∃ lm:Int,lm=(m:Int)+1:=⟨_,rfl⟩
    obtain ⟨en',hen⟩:∃ en',en'=(kids.map kidE).length:=⟨_,rfl⟩
    have hcel:Cel wr w.heap.size [.int .i64 (pg':Int), .int .i64 lm, .slice ea' en' ec', .slice ta' to'.length tc'] 179:=by
     rw [hlm,hen]
     exact hR.cel
    have hoes:=H1.out.2.2.2.2.1
    obtain ⟨a0,r0,hoe0⟩:∃ a0 r0,oes=a0::r0:=List.exists_cons_of_ne_nil hoes
    have ho0:oes[0]? = some a0:=by rw [hoe0]; rfl
    have hord:Rd kdEn wr (fun q=>S q∨q=w.heap.size) (.slice oa oes.length oc) oes:=H1.out.2.2.2.1.step ⟨hst.only.mono fun _ _ e=>.inr e,fun q hq=>.inl hq⟩
    have hzr:w1.heap.size < wr.heap.size:=COr.lt
    have hzn:w.heap.size < wr.heap.size:=hcel.lt
    have hd1:Below wr.heap.size wr wr.drew:=(Below.refl _ _).drew
    have FF:∀ W,Below wr.heap.size wr W→W.cell? ⟨w.heap.size,0,none⟩=some (.int .i64 (pg':Int))∧W.cell? ⟨w.heap.size,1,none⟩=some (.int .i64 lm)∧W.cell? ⟨w.heap.size,2,none⟩=some (.slice ea' en' ec')∧W.cell? ⟨w.heap.size,3,none⟩=some (.slice ta' to'.length tc')∧W.cell? ⟨w1.heap.size,0,none⟩=some (.int .i64 (k:Int))∧W.cell? ⟨w1.heap.size,1,none⟩=some (.int .i64 (ol:Int))∧W.cell? ⟨w1.heap.size,2,none⟩=some (.slice oa oes.length oc)∧W.cell? ⟨w1.heap.size,3,none⟩=some (.slice da 0 dc):=fun W hb =>
     ⟨(hb.cell (p:=⟨w.heap.size,0,none⟩) hzn).trans (hcel.cell 0),(hb.cell (p:=⟨w.heap.size,1,none⟩) hzn).trans (hcel.cell 1),(hb.cell (p:=⟨w.heap.size,2,none⟩) hzn).trans (hcel.cell 2),(hb.cell (p:=⟨w.heap.size,3,none⟩) hzn).trans (hcel.cell 3),
      (hb.cell (p:=⟨w1.heap.size,0,none⟩) hzr).trans (COr.cell 0),(hb.cell (p:=⟨w1.heap.size,1,none⟩) hzr).trans (COr.cell 1),(hb.cell (p:=⟨w1.heap.size,2,none⟩) hzr).trans (COr.cell 2),(hb.cell (p:=⟨w1.heap.size,3,none⟩) hzr).trans (COr.cell 3)⟩
    have hlt:w.heap.size < w1.heap.size:=by omega
    have hTS:TrS wr tb db pb fr D ps (fun q=>S q∨q=w.heap.size):=(H1.out.2.2.2.2.2.1.below hbr).more (fun q h=>.inl h) (fun q hq=>hq.elim ((H1.out.2.2.2.2.2.1.below hbr).lt q) (fun e=>by rw [e]; exact hzn)) (fun hq=>hq.elim H1.out.2.2.2.2.2.1.tlt.2 (fun e=>by have:=H1.out.2.2.2.2.2.1.tlt.1; omega))
    have LL:=least_any (p:=(k:Int)) (l:=(ol:Int)) (tv:=.slice da 0 dc) wr.drew (hord.step (Step.of_below hd1 _)) ho0
    have hlen:=hR.ok.1.few
    have WW:=fun (W:World) (hb:Below wr.heap.size wr W) (kv:Value) (hkv:Bs W kv a0.key)=>way_any (p:=(pg':Int)) (l:=lm) (tv:=.slice ta' to'.length tc') W (hR.rd.step (Step.of_below hb _)) hkv hR.ok.1.2.2.1 (by omega)
    have hwl:=way_lt hR.ok.1.1 a0.key
    obtain ⟨kd,hkd⟩:∃ kd,kids[way (kids.map kidE) a0.key]? = some kd:=⟨_,List.getElem?_eq_getElem (by simpa using hwl)⟩
    obtain ⟨ces,cpg,g1,g2,g3,g4,g5,g6,g7,g8,g9,g10⟩:=kid_facts hsub hR.rise hR.und hkd
    have hmf:=hR.few
    have CC:=fun (W:World) (hb:Below wr.heap.size wr W)=>child_any (p:=(pg':Int)) W hlm (hTS.below hb) ho (hR.rd.step (Step.of_below hb _)) (hR.ends.step (Step.of_below hb _)) g6 g5 (by omega) g1 g2 g7 g8
    rw [← hen] at WW CC
    have hi1:(ol:Int) < lm:=by omega
    have n1':=(FF wr (Below.refl _ _)).2.1
    have HX:=Lib.hid (fun (W:World) (hW:W.cell? ⟨w.heap.size,0,none⟩=some (.int .i64 (pg':Int))∧W.cell? ⟨w.heap.size,1,none⟩=some (.int .i64 lm)∧W.cell? ⟨w.heap.size,2,none⟩=some (.slice ea' en' ec')∧W.cell? ⟨w.heap.size,3,none⟩=some (.slice ta' to'.length tc')∧W.cell? ⟨w1.heap.size,0,none⟩=some (.int .i64 (k:Int))∧W.cell? ⟨w1.heap.size,1,none⟩=some (.int .i64 (ol:Int))∧W.cell? ⟨w1.heap.size,2,none⟩=some (.slice oa oes.length oc)∧W.cell? ⟨w1.heap.size,3,none⟩=some (.slice da 0 dc))=>hW)
    have HF:=Lib.hid (anZ FF (anZ LL (anZ WW CC)))
    have hin:∀ q∈kd.pgs,q∈kids.flatMap Sb.pgs:=fun q hq=>List.mem_flatMap.2 ⟨kd,List.mem_of_getElem? hkd,hq⟩
    have hout:=hR.out
    have H2:=Lib.hid (anZ hcel (anZ hbr (anZ hst (anZ g1 (anZ g3 (anZ g9 (anZ g10 (anZ (show kd.page≠k from fun e=>hout (hin k (by rw [g4, ← e]; exact List.mem_cons_self))) (anZ (show k ∉ cpg from fun e=>hout (hin k (by rw [g4]; exact List.mem_cons_of_mem _ e))) (anZ (show m≤4096 by omega) hlm))))))))))
    clear hR hcel hord FF hTS LL WW CC g1 g2 g3 g4 g5 g6 g7 g8 g9 g10 hin hout hst hbr COr ho0 hoe0 hoes hsub hkd hen hlm hwl hgo n1
    generalize way (kids.map kidE) a0.key=wy at *
    have hS0:=HF.out.1 _ hd1
    go_wp2_with fail
    refine region_upto 10 (fun W=>W.cell? ⟨w.heap.size,0,none⟩=some (.int .i64 (pg':Int))∧W.cell? ⟨w.heap.size,1,none⟩=some (.int .i64 lm)∧W.cell? ⟨w.heap.size,2,none⟩=some (.slice ea' en' ec')∧W.cell? ⟨w.heap.size,3,none⟩=some (.slice ta' to'.length tc')∧W.cell? ⟨w1.heap.size,0,none⟩=some (.int .i64 (k:Int))∧W.cell? ⟨w1.heap.size,1,none⟩=some (.int .i64 (ol:Int))∧W.cell? ⟨w1.heap.size,2,none⟩=some (.slice oa oes.length oc)∧W.cell? ⟨w1.heap.size,3,none⟩=some (.slice da 0 dc)) (by kernel_rfl) hS0 (fun hS=>?_)
    refine take_upto (i:=0) (some 28) (ptr tb) rfl rfl (by kernel_rfl) (by kernel_rfl) (by kernel_rfl) (by kernel_rfl) (by kernel_rfl) (by decide) (fun _ _ _ h=>h) (by rfl) (fun W hW=>?_) hS ?_
    ·have hx:=HX.out W hW
     clear hW
     go_simp
    simp only [Act.put,sAZ,sBZ,sCZ]
    refine take_upto (i:=1) (some 29) (ndv (pg':Int) lm (.slice ea' en' ec') (.slice ta' to'.length tc')) rfl rfl (by kernel_rfl) (by kernel_rfl) (by kernel_rfl) (by kernel_rfl) (by kernel_rfl) (by decide) (fun _ _ _ h=>h) (by rfl) (fun W hW=>?_) hS ?_
    ·have hx:=HX.out W hW
     clear hW
     go_simp
    simp only [Act.put,sAZ,sBZ,sCZ]
    refine take_upto (i:=2) (some 30) (ndv (pg':Int) lm (.slice ea' en' ec') (.slice ta' to'.length tc')) rfl rfl (by kernel_rfl) (by kernel_rfl) (by kernel_rfl) (by kernel_rfl) (by kernel_rfl) (by decide) (fun _ _ _ h=>h) (by rfl) (fun W hW=>?_) hS ?_
    ·have hx:=HX.out W hW
     clear hW
     go_simp
    simp only [Act.put,sAZ,sBZ,sCZ]
    refine take_upto (i:=3) (some 31) (ndv (k:Int) (ol:Int) (.slice oa oes.length oc) (.slice da 0 dc)) rfl rfl (by kernel_rfl) (by kernel_rfl) (by kernel_rfl) (by kernel_rfl) (by kernel_rfl) (by decide) (fun _ _ _ h=>h) (by rfl) (fun W hW=>?_) hS ?_
    ·have hx:=HX.out W hW
     clear hW
     go_simp
    simp only [Act.put,sAZ,sBZ,sCZ]
    refine next_upto 4 (by kernel_rfl) rfl (fun K hK=>?_)
    go_simp
    refine HF.out.2.1.mono ?_
    rintro e w5 ⟨lv5,rfl,hl5,hb5⟩
    have hd2:=hd1.trans (hb5.mono hd1.size)
    refine hK.out _ _ (fun _=>HF.out.1 _ hd2) ?_
    clear hK K hS
    have hS:=HF.out.1 _ hd2
    refine next_upto 5 (by kernel_rfl) rfl (fun K hK=>?_)
    go_simp
    refine (HF.out.2.2.1 _ hd2 _ hl5.1).mono ?_
    rintro e w6 ⟨rfl,hb6⟩
    have hd3:=hd2.trans (hb6.mono hd2.size)
    refine hK.out _ _ (fun _=>HF.out.1 _ hd3) ?_
    clear hK K hS hl5
    have hS:=HF.out.1 _ hd3
    refine next_upto 6 (by kernel_rfl) rfl (fun K hK=>?_)
    go_simp
    refine (HF.out.2.2.2 _ hd3).mono ?_
    rintro e w7 ⟨cv,rfl,hcn,hb7⟩
    have hd4:=hd3.trans (hb7.mono hd3.size)
    refine hK.out _ _ (fun _=>HF.out.1 _ hd4) ?_
    clear hK K hS
    have hS:=HF.out.1 _ hd4
    obtain ⟨ca,cc,ua,uc,rfl,hce,hcu⟩:=hcn
    refine take_upto (i:=7) (some 27) (.tuple #[ndv ((kidE kd).page:Int) (m:Int) (.slice ca ces.length cc) (.slice ua (endK (kids.map kidE) to' wy).length uc),err 0]) rfl rfl (by kernel_rfl) (by kernel_rfl) (by kernel_rfl) (by kernel_rfl) (by kernel_rfl) (by decide) (fun _ _ _ h=>h) (by rfl) (fun W hW=>?_) hS ?_
    ·have hx:=HX.out W hW
     clear hW
     go_simp
    simp only [Act.put,sAZ,sBZ,sCZ]
    refine take_upto (i:=8) (some 35) (ndv ((kidE kd).page:Int) (m:Int) (.slice ca ces.length cc) (.slice ua (endK (kids.map kidE) to' wy).length uc)) rfl rfl (by kernel_rfl) (by kernel_rfl) (by kernel_rfl) (by kernel_rfl) (by kernel_rfl) (by decide) (fun _ _ _ h=>h) (by rfl) (fun W hW=>?_) hS ?_
    ·have hx:=HX.out W hW
     clear hW
     go_simp
    simp only [Act.put,sAZ,sBZ,sCZ]
    refine pure_upto (i:=9) (some 36) (err 0) rfl rfl (by kernel_rfl) (by kernel_rfl) (by kernel_rfl) (by decide) (fun _ _ _ h=>h) (by rfl) (fun W=>?_) (fun _=>hS) ?_
    ·go_simp
    simp only [Act.put,sAZ,sBZ,sCZ]
    obtain ⟨hcel,hbr,hst,g1,g3,g9,g10,hne,hnk,hm4,hlm⟩:=H2.out
    have hbw3:=hbr.trans (hd4.mono hbr.size)
    have C9:=hcel.below hd4 hzn
    have f0:=C9.frozen 0
    have f1:=C9.frozen 1
    have f2:=C9.frozen 2
    have f3:=C9.frozen 3
    obtain ⟨s0,s1,s2,s3, -, -, -, -⟩:=hS
    have H3:=Lib.hid (anZ hbw3 (anZ C9 (anZ hce (anZ hcu hd4))))
    clear hcel hbr hst g1 g3 g9 g10 hne hnk hm4 hlm hbw3 C9 hce hcu hd1 hd2 hd3 hd4 hb5 hb6 hb7
    refine next_upto 10 (by kernel_rfl) rfl (fun K hK=>?_)
    go_simp
    refine hK.out _ _ (fun h=>Bool.noConfusion (show true=false from h)) ?_
    clear hK K
    refine next_upto 11 (by kernel_rfl) rfl (fun K hK=>?_)
    go_simp
    refine hK.out _ _ (fun h=>Bool.noConfusion (show true=false from h)) ?_
    clear hK K
    refine done_upto (by kernel_rfl) ?_ _
    go_wp2
    obtain ⟨hcel,hbr,hst,g1,g3,g9,g10,hne,hnk,hm4,hlm⟩:=H2.out
    obtain ⟨hbw3,C9,hce,hcu,hd4⟩:=H3.out
    have CF:=(((C9.set 0 (.int .i64 (kd.page:Int))).set 1 (.int .i64 (m:Int))).set 2 (.slice ca ces.length cc)).set 3 (.slice ua (endK (kids.map kidE) to' wy).length uc)
    have stf:∀ T:Nat→Prop,T w.heap.size→Step T w7 ((((w7.setCell ⟨w.heap.size,0,none⟩ (.int .i64 (kd.page:Int))).setCell ⟨w.heap.size,1,none⟩ (.int .i64 (m:Int))).setCell ⟨w.heap.size,2,none⟩ (.slice ca ces.length cc)).setCell ⟨w.heap.size,3,none⟩ (.slice ua (endK (kids.map kidE) to' wy).length uc)) T:=fun T hT =>
     ((((Step.refl T w7).set (p:=⟨w.heap.size,0,none⟩) hT (.int .i64 (kd.page:Int))).set (p:=⟨w.heap.size,1,none⟩) hT (.int .i64 (m:Int))).set (p:=⟨w.heap.size,2,none⟩) hT (.slice ca ces.length cc)).set (p:=⟨w.heap.size,3,none⟩) hT (.slice ua (endK (kids.map kidE) to' wy).length uc)
    have st1:=stf (fun q=>S q∨q=w.heap.size) (.inr rfl)
    refine ⟨⟨rfl,⟨m,kd.page,ces,endK (kids.map kidE) to' wy,kd.prs,cpg,_,_,⟨CF,hce.step st1,hcu.step st1,g3,g1,g9,g10,hne,hnk,hm4⟩⟩,?_,(hst.trans (Step.of_below hd4 _)).trans (stf _ rfl)⟩,?_⟩
    ·exact (((hbw3.setCell (p:=⟨w.heap.size,0,none⟩) (Nat.le_refl _) (.int .i64 (kd.page:Int))).setCell (p:=⟨w.heap.size,1,none⟩) (Nat.le_refl _) (.int .i64 (m:Int))).setCell (p:=⟨w.heap.size,2,none⟩) (Nat.le_refl _) (.slice ca ces.length cc)).setCell (p:=⟨w.heap.size,3,none⟩) (Nat.le_refl _) (.slice ua (endK (kids.map kidE) to' wy).length uc)
    ·have e1:mLv w.heap.size wr=m+1:=mLv_of (by rw [n1',hlm]; norm_cast)
     have e2:=mLv_of (g:=w.heap.size) (l:=m) (CF.cell 1)
     exact Nat.lt_of_le_of_lt (Nat.le_of_eq e2) (by omega)
   ·have hni:¬ (ol:Int) < (l':Int):=by omega
    have hnp:((pg':Int) == (k:Int))=false:=by rw [beq_eq_false_iff_ne]; have:=hR.ne; omega
    have n0:wr.cell? ⟨w.heap.size,0,none⟩=some (.int .i64 (pg':Int)):=hR.cel.cell 0
    have HB:=Lib.hid hbr
    clear hR hst COr hbr hgo
    go_wp2
    go_ret
    exact ⟨rfl,HB.out⟩
end Go.Proofs.YtgkofgifoiinkaaGreat
namespace Go.Proofs.YtgkofgifoiinkaaGreat
open Go.RowKit
def Grows (w:World) (e:Ending) (w':World):Prop:=∃ v,e = .returned v∧w'.ownsRow 0 197 3 v 0 []∧Below w.heap.size w w'∧∀ q,v.ownBlock=some q→w.heap.size≤q
set_option maxHeartbeats 400000 in
theorem grow_any (n:Nat) (w:World) (hn:n≤2147483648):Calls Tryz.prog 218 #[.slice none 0 0, .int .i64 (n:Int)] w (Grows w):=by
 rcases Nat.eq_zero_or_pos n with h0 | h0
 ·subst h0
  go_enter Tryz.func218,Tryz.ntmps218
  go_wp2
  go_ret
  exact ⟨_,rfl,World.ownsRow_nil _ _ _ _,Below.refl _ _,fun q h=>by cases h⟩
 ·obtain ⟨i,z,hi,hz,hsz,hzs,hby⟩:=ent_ty.info
  have hsz:i.size=3:=hsz
  have hzs:z.cells.size=3:=hzs
  have hr:∀ ty,(Builtin.append_ #[177,3] ty #[.slice none 0 0, .int .i64 (n:Int)]).run Tryz.prog w=_:=fun ty=>Lib.run_append_nil_zeros w 177 3 ty 197 i z .i64 .i64 Tryz.underlying177 Tryz.underlying3 hi hz n h0 (by omega) (by omega) (by
   have:=Nat.mul_le_mul hn hby
   omega)
  have hge:=grownCap_ge w n 0 197
  have hle:=grownCap_le_maxLen w n 0 197 (by unfold maxLen; omega)
  have hcs:(Builtin.zeroCells z.cells n++Builtin.zeroCells z.cells (grownCap w n 0 197-n)).size=grownCap w n 0 197*3:=by
   simp [Builtin.zeroCells,hzs]
   omega
  have own:=World.ownsRow_made (base:=0) (e:=197) (size:=3) w.drew _ (grownCap w n 0 197) (Nat.zero_le _) hle hcs
  have hb:Below w.heap.size w (w.drew.alloc (.cells (Builtin.zeroCells z.cells n++Builtin.zeroCells z.cells (grownCap w n 0 197-n)) 197)):=((Below.refl _ _).drew).alloc (Nat.le_refl _) _
  generalize grownCap w n 0 197=c at *
  generalize w.drew.alloc (.cells (Builtin.zeroCells z.cells n++Builtin.zeroCells z.cells (c-n)) 197)=w1 at *
  have hni:(0:Int) < (n:Int):=by omega
  have hn2:(n:Int)≤2147483648:=by omega
  have H:=Lib.hid (anZ own hb)
  clear own hb hi hz hsz hzs hby hcs h0
  go_enter Tryz.func218,Tryz.ntmps218
  go_wp2_with (at_builtin; refine Lib.wpList_append_run _ rfl _ _ _ _ rfl _ _ rfl rfl _ _ (hr _) ?_)
  go_ret
  refine ⟨_,rfl,H.out.1,H.out.2,fun q h=>?_⟩
  cases h
  exact Nat.le_refl _
def lenE (l:List (List En)):Nat:=(l.map List.length).sum
theorem lenE_take_succ {l:List (List En)} {j:Nat} {e:List En} (h:l[j]? = some e):lenE (l.take (j+1))=lenE (l.take j)+e.length:=by
 unfold lenE
 rw [List.take_add_one,h]
 simp
theorem lenE_take_le (l:List (List En)) (j:Nat):lenE (l.take j)≤lenE l:=by
 have h:lenE l=lenE (l.take j)+lenE (l.drop j):=by
  unfold lenE
  rw [← List.sum_append, ← List.map_append,List.take_append_drop]
 omega
theorem lenE_flatten (l:List (List En)):l.flatten.length=lenE l:=by simp [lenE,List.length_flatten]
theorem flatten_take_succ {l:List (List En)} {j:Nat} {e:List En} (h:l[j]? = some e):(l.take (j+1)).flatten=(l.take j).flatten++e:=by
 rw [List.take_add_one,h]
 simp
theorem Rd.row {w:World} {S:Nat→Prop} {v:Value} {l:List (List En)} (h:Rd kdEs w S v l) {i:Nat} {es:List En} (he:l[i]? = some es):∃ g o cap ea ec,v = .slice (some ⟨g,o,none⟩) l.length cap∧g < w.heap.size ∧
  w.cell? ⟨g,o+i,none⟩=some (.slice ea es.length ec)∧Rd kdEn w S (.slice ea es.length ec) es:=by
 obtain ⟨g,o,cap,⟨⟨ea,en,ec⟩,l'⟩,h1,h2,h3,h4,h5,_⟩:=h.at he
 have h2:l'=es:=h2
 subst h2
 obtain ⟨_,_,e1,_⟩:=Rd.shape h3
 simp only [Sl.v,Value.slice.injEq] at e1
 obtain ⟨_,rfl,_⟩:=e1
 refine ⟨g,o,cap,ea,ec,h1,h4,?_,h3⟩
 have:=h5 0 _ rfl
 simpa [kdEs,Sl.v] using this
def Concats (w:World) (S:Nat→Prop) (l:List En) (e:Ending) (w':World):Prop :=
 ∃ v,e = .returned v∧Rd kdEn w' S v l∧Below w.heap.size w w'∧∀ q,v.ownBlock=some q→w.heap.size≤q
structure CcR (w:World) (S:Nat→Prop) (lss:List (List En)) (av:Value) (wr:World) (j:Nat) (r:Value) (Sx:Nat→Prop):Prop where
 ro:Ro kdEn 197 wr Sx r (lss.take j).flatten
 rd:Rd kdEs wr Sx av lss
 bel:Below w.heap.size w wr
 own:∀ q,r.ownBlock=some q→w.heap.size≤q
 incl:∀ q,S q→Sx q
set_option maxHeartbeats 1000000 in
theorem concat_any {av:Value} {S:Nat→Prop} {lss:List (List En)} (w:World) (h:Rd kdEs w S av lss) (hS:∀ q,S q→q < w.heap.size) (hl:lss.length≤1000) (hn:lenE lss≤2147483648) :
  Calls Tryz.prog 203 #[av] w (Concats w S lss.flatten):=by
 have G:=grow_any (lenE lss) w hn
 obtain ⟨aa,ac,rfl,_⟩:=h.shape
 have HH:=Lib.hid (anZ h hS)
 clear h hS
 go_enter Tryz.func203,Tryz.ntmps203
 go_wp2
 go_loopw [3,11] (fun s i wr=>∃ j:Nat,j≤lss.length∧i = .int .i64 j∧s = .int .i64 (lenE (lss.take j):Nat)∧wr=w) (fun _ i _=>lss.length-(intOf i).toNat)
 case atStart=>exact ⟨0,Nat.zero_le _,rfl,rfl,rfl⟩
 case round =>
  obtain ⟨j,hj,rfl,rfl,rfl⟩:=hrel
  by_cases hlt:j < lss.length
  ·obtain ⟨es,hes⟩:∃ es,lss[j]? = some es:=⟨_,List.getElem?_eq_getElem hlt⟩
   obtain ⟨g,o,cap,ea,ec,e0,hg,c0,hr⟩:=HH.out.1.row hes
   simp only [Value.slice.injEq] at e0
   obtain ⟨rfl,_,rfl⟩:=e0
   have hil:(j:Int) < (lss.length:Int):=by omega
   have hs:=lenE_take_succ hes
   have hle:=lenE_take_le lss (j+1)
   have HS:=Lib.hid hs
   have h1:(lenE (lss.take j):Int)+(es.length:Int)≤2147483648:=by omega
   have h0:¬ (lenE (lss.take j):Int)+(es.length:Int) < 0:=by omega
   have h00:decide ((lenE (lss.take j):Int)+(es.length:Int) < 0)=false:=by simp; omega
   clear hs hr hes hle
   generalize lenE (lss.take j)=m at *
   generalize es.length=k at *
   go_wp2
   go_roundw
   case rel=>exact ⟨j+1,by omega,by go_num,by rw [HS.out]; go_num,by trivial⟩
   case measure=>simp [intOf]; omega
  ·obtain rfl:j=lss.length:=by omega
   rw [List.take_length]
   go_wp2_with fail
   refine G.mono ?_
   rintro e w1 ⟨v,rfl,ho,hb1,hv⟩
   clear G
   have hstart:CcR wr S lss (.slice aa lss.length ac) w1 0 v (Sv S v):=by
    have st:Step S wr w1 (Sv S v):=⟨Only.of_below hb1 S,fun q hq=>hq.elim .inl fun h=>.inr (hv q h)⟩
    exact ⟨⟨[],rfl,ho,(fun _ h=>by cases h),fun q h=>.inr h⟩,HH.out.1.step st,hb1,hv,fun q h=>.inl h⟩
   have H1:=Lib.hid hstart
   clear ho hb1 hv hstart
   go_wp2
   go_loopw [6,27] (fun r i w2=>∃ (j:Nat) (Sx:Nat→Prop),j≤lss.length∧i = .int .i64 j∧CcR wr S lss (.slice aa lss.length ac) w2 j r Sx) (fun _ i _=>lss.length-(intOf i).toNat)
   case atStart=>exact ⟨0,_,Nat.zero_le _,rfl,H1.out⟩
   case round =>
    obtain ⟨j,Sx,hj,rfl,hR⟩:=hrel
    by_cases hlt:j < lss.length
    ·obtain ⟨es,hes⟩:∃ es,lss[j]? = some es:=⟨_,List.getElem?_eq_getElem hlt⟩
     obtain ⟨g,o,cap,ea,ec,e0,hg,c0,hr⟩:=hR.rd.row hes
     simp only [Value.slice.injEq] at e0
     obtain ⟨rfl,_,rfl⟩:=e0
     have hil:(j:Int) < (lss.length:Int):=by omega
     have hlen:((lss.take j).flatten).length+es.length≤4294967296:=by
      rw [lenE_flatten]
      have:=lenE_take_succ hes
      have:=lenE_take_le lss (j+1)
      omega
     have H2:=Lib.hid (anZ hR (anZ hes hlen))
     have hro:=hR.ro
     clear hR hes
     go_wp2_with (at_builtin; refine wpList_append_ro ent_ty rfl _ _ rfl rfl rfl hro hr hlen ?_; intro v' w6 ro6 st6 gr6 lo6)
     go_roundw
     case rel =>
      obtain ⟨hR,hes,_⟩:=H2.out
      refine ⟨j+1,_,by omega,by go_num,⟨?_,hR.rd.step st6,?_,fun q hq=>?_,fun q h=>.inl (hR.incl q h)⟩⟩
      ·rw [flatten_take_succ hes]
       exact ro6
      ·exact hR.bel.grown gr6 hR.bel.size fun k hk=>hR.own k hk
      ·rcases lo6 with h | h
       ·exact hR.own q (h ▸ hq)
       ·rw [h] at hq
        cases hq
        exact hR.bel.size
     case measure=>simp [intOf]; omega
    ·obtain rfl:j=lss.length:=by omega
     have H2:=Lib.hid hR
     clear hR
     go_wp2
     go_ret
     obtain hR:=H2.out
     have hro:=hR.ro
     rw [List.take_length] at hro
     exact ⟨_,rfl,hro.rd hR.incl (fun q hq hs=>by have:=hR.own q hq; have:=HH.out.2 q hs; omega),hR.bel,hR.own⟩
end Go.Proofs.YtgkofgifoiinkaaGreat
namespace Go.Proofs.YtgkofgifoiinkaaGreat
open Go.RowKit
def Halved (lvl:Nat) (es:List En) (L:List (List En)):Prop :=
 (es=[]∧L=[])∨(es≠[]∧nsize lvl es≤503∧L=[es]) ∨
 (503 < nsize lvl es∧∃ k,0 < k∧k≤es.length∧L=[es.take k,es.drop k]∧nsize lvl es / 2≤nsize lvl (es.take k)∧nsize lvl (es.take (k-1)) < nsize lvl es / 2)
def mkN (lvl:Nat) (es:List En):Nd:=⟨0,lvl,es,[]⟩
def Halves (w:World) (S:Nat→Prop) (lvl:Nat) (es:List En) (e:Ending) (w':World):Prop :=
 ∃ v L,e = .returned v∧Halved lvl es L∧Rd kdNd w' S v (L.map (mkN lvl))∧Below w.heap.size w w'
end Go.Proofs.YtgkofgifoiinkaaGreat
namespace Go.Proofs.YtgkofgifoiinkaaGreat
open Go.RowKit
def ints (l:List Nat):List Int:=l.map fun k:Nat=>(k:Int)
theorem ints_length (l:List Nat):(ints l).length=l.length:=by simp [ints]
theorem ints_append (a b:List Nat):ints (a++b)=ints a++ints b:=by simp [ints]
structure Wk where
 T:List Nat
 BL:List Bytes
 X:List Nat
structure StAt (w:World) (tb db pb fr:Nat) (D:Dv) (l:List Pg) (wb:Nat) (top:Nd) (k:Wk) (S F G:Nat→Prop) (tev ttv tv bv xv:Value):Prop where
 tr:TrAt w tb db pb fr D l S F G
 cel:Cel w wb [ptr tb, .int .i64 top.page, .int .i64 (top.lvl:Nat),tev,ttv,tv,bv, .slice none 0 0,xv] 201
 te:Rd kdEn w S tev top.ents
 tt:Bsf w S ttv top.to
 rt:Ro kdIn 3 w S tv (ints k.T)
 rb:Ro kdBs 24 w S bv k.BL
 rx:Ro kdIn 3 w S xv (ints k.X)
 ws:S wb
 wf:¬ F wb∧¬ G wb
 tf:∀ q,tv.ownBlock=some q→¬ F q∧¬ G q∧q≠wb
 bf:∀ q,bv.ownBlock=some q→¬ F q∧¬ G q∧q≠wb
 xf:∀ q,xv.ownBlock=some q→¬ F q∧¬ G q∧q≠wb
 tx:∀ q,tv.ownBlock=some q→xv.ownBlock≠some q
 tbn:∀ q,tv.ownBlock=some q→bv.ownBlock≠some q
 bx:∀ q,bv.ownBlock=some q→xv.ownBlock≠some q
def St (w:World) (tb db pb fr:Nat) (D:Dv) (l:List Pg) (wb:Nat) (top:Nd) (k:Wk) (S:Nat→Prop):Prop:=∃ F G tev ttv tv bv xv,StAt w tb db pb fr D l wb top k S F G tev ttv tv bv xv
section
variable {w w':World} {tb db pb fr:Nat} {D:Dv} {l:List Pg} {wb:Nat} {top:Nd} {k:Wk} {S F G:Nat→Prop} {tev ttv tv bv xv:Value}
theorem TrAt.below (h:TrAt w tb db pb fr D l S F G) (hb:Below w.heap.size w w'):TrAt w' tb db pb fr D l S F G :=
 ⟨h.tree.below hb h.tree.lt,h.dev.below hb,h.pgs.below hb,h.fg,h.fs,h.gs,fun q hq=>Nat.lt_of_lt_of_le (h.lt q hq) hb.size,h.out,h.room⟩
theorem StAt.below (h:StAt w tb db pb fr D l wb top k S F G tev ttv tv bv xv) (hb:Below w.heap.size w w'):StAt w' tb db pb fr D l wb top k S F G tev ttv tv bv xv :=
 {tr:=h.tr.below hb,cel:=h.cel.below hb h.cel.lt,te:=h.te.step (Step.of_below hb S),tt:=h.tt.step (Step.of_below hb S),rt:=h.rt.below hb,rb:=h.rb.below hb,rx:=h.rx.below hb,
  ws:=h.ws,wf:=h.wf,tf:=h.tf,bf:=h.bf,xf:=h.xf,tx:=h.tx,tbn:=h.tbn,bx:=h.bx }
theorem St.below (h:St w tb db pb fr D l wb top k S) (hb:Below w.heap.size w w'):St w' tb db pb fr D l wb top k S:=let ⟨F,G,a,b,c,d,e,h⟩:=h; ⟨F,G,a,b,c,d,e,h.below hb⟩
theorem St.tr (h:St w tb db pb fr D l wb top k S):TrS w tb db pb fr D l S:=let ⟨F,G,_,_,_,_,_,h⟩:=h; ⟨F,G,h.tr⟩
theorem St.lt (h:St w tb db pb fr D l wb top k S):∀ q,S q→q < w.heap.size:=h.tr.lt
theorem St.drewN (h:St w tb db pb fr D l wb top k S) (n:Nat):St (w.drewN n) tb db pb fr D l wb top k S:=h.below (below_drewN (Below.refl _ _) n)
end
section
variable {w w':World} {tb db pb fr:Nat} {D:Dv} {l:List Pg} {wb:Nat} {top:Nd} {k:Wk} {S S' F G:Nat→Prop} {tev ttv tv bv xv:Value}
theorem TrAt.turn (h:TrAt w tb db pb fr D l S F G) (st:Step S w w' S') (hk:∀ q,F q∨G q→w'.heap[q]? = w.heap[q]?) (hi:∀ q,S q→S' q) (hlt:∀ q,S' q→q < w'.heap.size):TrAt w' tb db pb fr D l S' F G :=
 ⟨h.tree.only st.only h.out,h.dev.kept (fun q hq=>hk q (.inl hq)) st.size,h.pgs.kept (fun q hq=>hk q (.inr hq)) st.size,h.fg,fun q hq=>hi q (h.fs q hq),fun q hq=>hi q (h.gs q hq),hlt,
  fun hq=>(st.more tb hq).elim h.out fun h2=>by have:=h.tree.lt; omega,h.room⟩
end
section
variable {w:World} {tb db pb fr:Nat} {D:Dv} {l:List Pg} {wb:Nat} {top:Nd} {k:Wk} {S:Nat→Prop}
def leaves (p:Int) (k:Wk):Wk:=if p = -1 then k else ⟨k.T,k.BL,k.X++[p.toNat]⟩
def Leaves (w:World) (tb db pb fr:Nat) (D:Dv) (l:List Pg) (wb:Nat) (top:Nd) (k:Wk) (S F G:Nat→Prop) (tev ttv tv bv xv:Value) (e:Ending) (w':World):Prop :=
 e = .returned (.tuple #[])∧∃ S' xv',StAt w' tb db pb fr D l wb top k S' F G tev ttv tv bv xv'∧Step S w w' S'∧(∀ q,S q→S' q)∧(∀ q,xv'.ownBlock=some q→xv.ownBlock=some q∨w.heap.size≤q)∧∀ g,g < w.heap.size→g≠wb→xv.ownBlock≠some g→w'.heap[g]? = w.heap[g]?
end
section
variable {w w':World} {tb db pb fr:Nat} {D:Dv} {l l':List Pg} {wb:Nat} {top:Nd} {k:Wk} {S F G:Nat→Prop} {tev ttv tv bv xv:Value}
theorem StAt.pages (h:StAt w tb db pb fr D l wb top k S F G tev ttv tv bv xv) (hp:Pgs w' pb l' G) (ho:Only G w w') (hl:l'.length=l.length):StAt w' tb db pb fr D l' wb top k S F G tev ttv tv bv xv∧Step S w w' S:=by
 have hst:Step S w w' S:=⟨ho.mono fun q _ hq=>h.tr.gs q hq,fun q hq=>.inl hq⟩
 have hsame:∀ g,g < w.heap.size→¬ G g→w'.heap[g]? = w.heap[g]?:=fun g h1 h2=>ho.block g h1 h2
 exact ⟨{
  tr:=⟨h.tr.tree.only hst.only h.tr.out,h.tr.dev.kept (fun q hq=>hsame q (h.tr.dev.fl q hq) (h.tr.fg q hq)) ho.size,hp,h.tr.fg,h.tr.fs,h.tr.gs,fun q hq=>Nat.lt_of_lt_of_le (h.tr.lt q hq) ho.size,h.tr.out,by rw [hl]; exact h.tr.room⟩
  cel:=h.cel.kept (hsame _ h.cel.lt h.wf.2),te:=h.te.step hst,tt:=h.tt.step hst
  rt:=h.rt.keep (fun g hg=>hsame g (h.rt.own hg) (h.tf g hg).2.1) hst (fun _ hq=>hq)
  rb:=h.rb.keep (fun g hg=>hsame g (h.rb.own hg) (h.bf g hg).2.1) hst (fun _ hq=>hq)
  rx:=h.rx.keep (fun g hg=>hsame g (h.rx.own hg) (h.xf g hg).2.1) hst (fun _ hq=>hq)
  ws:=h.ws,wf:=h.wf,tf:=h.tf,bf:=h.bf,xf:=h.xf,tx:=h.tx,tbn:=h.tbn,bx:=h.bx },hst⟩
theorem rdone_length (l:List Pg) (k:Int):(rdone l k).length=l.length:=by
 unfold rdone
 split
 ·rfl
 ·split
  ·rw [List.length_set]
  ·rfl
theorem tdone_length (l:List Pg):(tdone l).length=l.length:=by
 unfold tdone
 split
 ·rw [List.length_set]
 ·rfl
def dropsP (l:List Pg) (xs:List Nat):List Pg:=xs.foldl (fun l (k:Nat)=>rdone l k) l
theorem dropsP_length (l:List Pg) (xs:List Nat):(dropsP l xs).length=l.length:=by
 induction xs generalizing l with
 | nil=>rfl
 | cons a r ih=>exact (ih (rdone l a)).trans (rdone_length l a)
theorem dropsP_take_succ {l:List Pg} {xs:List Nat} {j a:Nat} (h:xs[j]? = some a):dropsP l (xs.take (j+1))=rdone (dropsP l (xs.take j)) (a:Int):=by
 unfold dropsP
 rw [List.take_add_one,h,List.foldl_append]
 rfl
set_option maxHeartbeats 1000000 in
theorem tdrop_at {lv:Value} {xs:List Nat} (h:StAt w tb db pb fr D l wb top k S F G tev ttv tv bv xv) (hl:Rw w lv xs.length 1 (kdIn.cells (ints xs))) (hg:∀ q,lv.ownBlock=some q→¬ G q) (hn:xs.length≤4294967296) :
  Calls Tryz.prog 168 #[ptr wb,lv] w fun e w'=>e = .returned (.tuple #[])∧StAt w' tb db pb fr D (dropsP l xs) wb top k S F G tev ttv tv bv xv∧Only G w w':=by
 obtain ⟨la,lc,rfl,_⟩:=hl.shape
 have HH:=Lib.hid (anZ h (anZ hl hg))
 clear h hl hg
 go_enter Tryz.func168,Tryz.ntmps168
 go_wp2
 go_loopw [8] (fun i wr=>∃ j:Nat,j≤xs.length∧i = .int .i64 j∧StAt wr tb db pb fr D (dropsP l (xs.take j)) wb top k S F G tev ttv tv bv xv∧Only G w wr) (fun i _=>xs.length-(intOf i).toNat)
 case atStart=>exact ⟨0,Nat.zero_le _,rfl,HH.out.1,Only.refl _ _⟩
 case round =>
  obtain ⟨j,hj,rfl,hst,hon⟩:=hrel
  by_cases hlt:j < xs.length
  ·obtain ⟨a,ha⟩:∃ a,xs[j]? = some a:=⟨_,List.getElem?_eq_getElem hlt⟩
   have hil:(j:Int) < (xs.length:Int):=by omega
   have hrw:=HH.out.2.1.only hon (fun _=>HH.out.2.2)
   obtain ⟨g,o,cap,e0,_,_,hgl,hc⟩:=hrw.open (by omega) (by decide)
   simp only [Value.slice.injEq] at e0
   obtain ⟨rfl,_,rfl⟩:=e0
   have c0:wr.cell? ⟨g,o+j,none⟩=some (.int .i64 (a:Int)):=by
    have:=hc j (.int .i64 (a:Int)) (by
     have:=kdIn.cells_at (ts:=ints xs) (i:=j) (t:=(a:Int)) (by simp [ints,ha]) (j:=0) (u:=.int .i64 (a:Int)) rfl
     simpa [kdIn] using this)
    exact this
   have t0:wr.cell? ⟨wb,0,none⟩=some (ptr tb):=hst.cel.cell 0
   have t1:wr.cell? ⟨tb,1,none⟩=some (ptr pb):=hst.tr.tree.cell 1
   have P:=Go.Proofs.YtgkofgifoiinkaaGreat.drop_any hst.tr.pgs (a:Int)
   have H2:=Lib.hid (anZ hst (anZ hon (dropsP_take_succ (l:=l) ha)))
   clear hst hon hrw hc ha
   go_wp2_with fail
   refine P.mono ?_
   rintro e w2 ⟨rfl,hp2,ho2⟩
   clear P
   have H3:=Lib.hid (anZ hp2 ho2)
   clear hp2 ho2
   go_wp2
   go_roundw
   case rel =>
    obtain ⟨hst,hon,hd⟩:=H2.out
    obtain ⟨hp2,ho2⟩:=H3.out
    refine ⟨j+1,by omega,by go_num,?_,hon.trans ho2⟩
    rw [hd]
    exact (hst.pages hp2 ho2 (rdone_length _ _)).1
   case measure=>simp [intOf]; omega
  ·obtain rfl:j=xs.length:=by omega
   rw [List.take_length] at hst
   have H2:=Lib.hid (anZ hst hon)
   clear hst hon
   go_wp2
   exact bodyPost_end (results_none rfl _ _ _) rfl ⟨rfl,H2.out.1,H2.out.2⟩
end
end Go.Proofs.YtgkofgifoiinkaaGreat
