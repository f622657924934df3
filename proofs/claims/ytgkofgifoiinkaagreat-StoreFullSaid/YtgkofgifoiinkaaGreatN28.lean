/- What is to stand in pages is written there, in order: the walk of write; conditions: they are whole blocks, fewer than 2^32 things are loose in each block. -/
import Derived.Test.YtgkofgifoiinkaaGreatN26
import Derived.Test.YtgkofgifoiinkaaGreatN27
import Derived.Test.YtgkofgifoiinkaaGreatN15
namespace Go.Proofs.YtgkofgifoiinkaaGreat
open Go.RowKit
def sliceLen:Value→Nat
 | .slice _ n _=>n
 | _=>0
def Rises (w0:World) (tb db pb fr:Nat) (D:Dv) (ps:List Pg) (wb:Nat) (top:Nd) (i1:Nat) (BL:List Bytes) (X:List Nat) (S0 F G:Nat→Prop) (tev ttv xv:Value) (n:Nat) (prs:List Pr) (pgs:List Nat) (e:Ending) (w':World):Prop :=
 ∃ (i2:Nat) (BL':List Bytes) (S':Nat→Prop) (tv bv:Value),StAt w' tb db pb fr D (tdones (i1+i2) ps) wb top ⟨placeT ps (i1+i2),BL++BL',X⟩ S' F G tev ttv tv bv xv∧Step S0 w0 w' S'∧(∀ q,S0 q→S' q) ∧
  (∀ j,j < i1+i2→leastFree (tdones j ps)≠none)∧BL'.length=i2∧(∀ b∈BL',b.length=512)∧i2≤mostN n ∧
  ((∃ (root:Int) (pgs':List Nat),e = .returned (.tuple #[.int .i64 root,err 0])∧Rt (ovr (blkOf D fr) ((placeT ps (i1+i2)).zip (BL++BL'))) ps.length root prs pgs'∧pgs'.Perm (pgs++placeT (tdones i1 ps) i2)) ∨
  (i2 < mostN n∧leastFree (tdones (i1+i2) ps)=none∧e = .returned (.tuple #[.int .i64 0,err 7])))
structure RiAt (w0:World) (tb db pb fr:Nat) (D:Dv) (ps:List Pg) (wb:Nat) (top:Nd) (i1:Nat) (BL:List Bytes) (X:List Nat) (S0 F G:Nat→Prop) (tev ttv xv:Value) (n lm:Nat) (P:List Nat) (prs:List Pr) (pgs:List Nat)
  (w:World) (lv:Value) (lvl:Nat) (Ls:List (List En)) (i2:Nat) (BL':List Bytes) (S:Nat→Prop) (tv bv:Value) (pg':List Nat):Prop where
 st:StAt w tb db pb fr D (tdones (i1+i2) ps) wb top ⟨placeT ps (i1+i2),BL++BL',X⟩ S F G tev ttv tv bv xv
 stp:Step S0 w0 w S
 inc:∀ q,S0 q→S q
 rd:Rd kdNd w S lv (Ls.map (mkN lvl))
 free:∀ j,j < i1+i2→leastFree (tdones j ps)≠none
 len:BL'.length=i2
 b512:∀ b∈BL',b.length=512
 rs:RiseS (ovr (blkOf D fr) ((placeT ps (i1+i2)).zip (BL++BL'))) ps.length lvl Ls prs pg'
 perm:pg'.Perm (pgs++placeT (tdones i1 ps) i2)
 out:∀ q∈pg',q∈P∨q∈placeT ps (i1+i2)
 lev:lvl+Ls.length≤lm
 most:i2+mostN Ls.length≤mostN n
set_option maxRecDepth 100000 in
set_option maxHeartbeats 8000000 in
theorem rise_any {w:World} {tb db pb fr:Nat} {D:Dv} {ps:List Pg} {wb:Nat} {top:Nd} {i1 lvl:Nat} {BL:List Bytes} {X P:List Nat} {S F G:Nat→Prop} {tev ttv tv bv xv lv:Value} {Ls:List (List En)} {prs:List Pr} {pgs:List Nat}
  (h:StAt w tb db pb fr D (tdones i1 ps) wb top ⟨placeT ps i1,BL,X⟩ S F G tev ttv tv bv xv) (hl:Rd kdNd w S lv (Ls.map (mkN lvl))) (ho:D.on=true) (ht:TopOk (blkOf D fr) ps.length top P) (hP:∀ q,ps[q]? = some (false,false)→q ∉ P)
  (hfree:∀ j,j < i1→leastFree (tdones j ps)≠none) (hBL:BL.length=i1) (hrs:RiseS (ovr (blkOf D fr) ((placeT ps i1).zip BL)) ps.length lvl Ls prs pgs) (hout:∀ q∈pgs,q∈P∨q∈placeT ps i1) (hr:RiseP prs) (hp:∀ p∈prs,PrOk p)
  (hlev:lvl+Ls.length≤4096) (hmost:i1+mostN Ls.length≤100000) :
  Calls Tryz.prog 135 #[ptr wb,lv] w (Rises w tb db pb fr D ps wb top i1 BL X S F G tev ttv xv Ls.length prs pgs):=by
 have hN:=h.tr.pgs.few
 have hN0:=h.tr.pgs.pos
 rw [tdones_length] at hN hN0
 have hstart:RiAt w tb db pb fr D ps wb top i1 BL X S F G tev ttv xv Ls.length (lvl+Ls.length) P prs pgs w lv lvl Ls 0 [] S tv bv pgs :=
  {st:=by rw [List.append_nil]; exact h,stp:=Step.refl _ _,inc:=fun _ h=>h,rd:=hl,free:=hfree,len:=rfl,b512:=(fun b hb=>by cases hb),rs:=by rw [List.append_nil]; exact hrs,perm:=by rw [show placeT (tdones i1 ps) 0=[] from rfl,List.append_nil],out:=hout,lev:=Nat.le_refl _,most:=by omega }
 have HH:=Lib.hid (anZ hstart (anZ ho (anZ ht (anZ hP (anZ hBL (anZ hr (anZ hp (anZ hlev (anZ hmost (anZ hN hN0))))))))))
 clear hstart h hl ho ht hP hfree hBL hrs hout hr hp hlev hmost hN hN0
 obtain ⟨n0,hn0⟩:∃ n0,n0=Ls.length:=⟨_,rfl⟩
 obtain ⟨lm,hlm⟩:∃ lm,lm=lvl+Ls.length:=⟨_,rfl⟩
 rw [← hlm, ← hn0] at HH
 rw [← hn0]
 clear hn0 hlm
 go_enter Tryz.func135,Tryz.ntmps135
 go_wp2
 go_loopw [1] (fun lv wr=>∃ lvl Ls i2 BL' S' tv bv pg',RiAt w tb db pb fr D ps wb top i1 BL X S F G tev ttv xv n0 lm P prs pgs wr lv lvl Ls i2 BL' S' tv bv pg') (fun lv _=>sliceLen lv)
 case atStart=>exact ⟨_,_,_,_,_,_,_,_,HH.out.1⟩
 case round =>
  obtain ⟨lvl',Ls',i2,BL',S',tv',bv',pg',hR⟩:=hrel
  obtain ⟨la,lc,rfl,_⟩:=hR.rd.shape
  obtain ⟨ln,hln⟩:∃ ln,ln=(Ls'.map (mkN lvl')).length:=⟨_,rfl⟩
  rw [← hln] at hR
  rw [← hln]
  have hln2:ln=Ls'.length:=by rw [hln,List.length_map]
  have hlev:=hR.lev
  have hmost:=hR.most
  have hmle:=mostN_le Ls'.length
  have hbl:BL.length=i1:=HH.out.2.2.2.2.1
  have hb512:=hR.len
  by_cases hlt:1 < ln
  ·have hi:(1:Int) < (ln:Int):=by omega
   have hall:=hR.rs.two (by omega)
   have hbig:=mostN_big (n:=Ls'.length) (by omega)
   have PL:=tplace_any (P:=P) hR.st hR.rd HH.out.2.1 (by rw [tdones_length]; exact HH.out.2.2.1) (fun j hj n hn=>HH.out.2.2.2.1 n (least_free hn)) (fun n hn=>by
     obtain ⟨L,hL,rfl⟩:=List.mem_map.1 hn
     have hok:=hall L hL
     exact ⟨hok.1.1,EOk.few hok.1.2.2.2,fun e he=>by have:=(hok.1.2.2.2 e he).2.2.1; have:=HH.out.2.2.2.2.2.2.2.2.2.1; omega,hok.1.2.1,by have:=HH.out.2.2.2.2.2.2.2.1; show lvl'≤65535; omega⟩)
    (by have:=HH.out.2.2.2.2.2.2.2.2.1; show (placeT ps (i1+i2)).length≤_; rw [placeT_length]; omega) (by have:=HH.out.2.2.2.2.2.2.2.2.1; show (BL++BL').length≤_; rw [List.length_append]; omega) (by have:=HH.out.2.2.2.2.2.2.2.2.1; rw [List.length_map]; omega)
   have H1:=Lib.hid (anZ hR (anZ hln2 (anZ hall (anZ hbig (anZ hbl hlt)))))
   clear hR hln2 hall hbig hln hlev hmost hmle hbl hb512 hlt
   go_wp2_with fail
   refine PL.mono ?_
   rintro e w2 ⟨n2,S2,tv2,bv2,hf2,h2,st2,in2,(⟨hn2,cv,rfl,hcv⟩ | ⟨hlt2,hnone,rfl⟩)⟩
   ·clear PL
    obtain ⟨hR,hln2,hall,hbig,hbl,hlt⟩:=H1.out
    rw [List.length_map] at hn2
    have hf:=free_add hR.free hf2
    rw [tdones_add, ← placeT_add,Nat.add_assoc] at h2
    obtain ⟨kids,k1,k2,k3,k4,k5,k6⟩:=rise_up (D:=D) (fr:=fr) (n:=n2) (i:=i1+i2) HH.out.2.2.2.2.2.2.2.2.2.1 HH.out.2.2.2.2.2.2.2.2.2.2 (by rw [List.length_append,hbl,hR.len]) hn2 hf HH.out.2.2.2.1 hR.out hall hR.rs.nb
    obtain ⟨r1,r2,r3⟩:=rise_fill HH.out.2.2.2.2.2.2.2.2.2.1 HH.out.2.2.2.2.2.2.2.2.2.2 k5 HH.out.2.2.2.2.2.1 HH.out.2.2.2.2.2.2.1 k3 (by omega)
    rw [k1] at hcv
    have hm0:=mostN_le Ls'.length
    have FL:=tfilled_any (N:=ps.length) (lvl:=lvl'+1) hcv r3 h2.tr.lt (by have h9:=HH.out.2.2.2.2.2.2.2.2.1; have h8:=hR.most; rw [List.length_map]; omega)
    rw [show ((lvl'+1:Nat):Int)=(lvl':Int)+1 by omega] at FL
    obtain ⟨L0,hL0⟩:∃ L0,Ls'[0]? = some L0:=⟨_,List.getElem?_eq_getElem (by omega)⟩
    have hr2:=hR.rd.step st2
    obtain ⟨g,o,cap,xa,xc,ya,yc,e0,hg,c0,c1,c2,c3,_,_⟩:=hr2.nod (i:=0) (n:=mkN lvl' L0) (by rw [List.getElem?_map,hL0]; rfl)
    simp only [Value.slice.injEq] at e0
    obtain ⟨rfl, -,rfl⟩:=e0
    rw [Nat.zero_mul,Nat.add_zero] at c1
    replace c1:w2.cell? ⟨g,o+1,none⟩=some (.int .i64 (lvl':Int)):=c1
    have hw1:IntKind.i64.wrap ((lvl':Int)+1)=(lvl':Int)+1:=IntWalk.i64_in _ (by have h9:=HH.out.2.2.2.2.2.2.2.1; have h8:=hR.lev; omega)
    have hpos:(0:Int) < (ln:Int):=by omega
    obtain ⟨cva,cvc,rfl,_⟩:=hcv.shape
    obtain ⟨kn,hkn⟩:∃ kn,kn=(kids.map kidE).length:=⟨_,rfl⟩
    rw [← hkn] at FL
    rw [← hkn]
    have H2:=Lib.hid (anZ h2 (anZ st2 (anZ in2 (anZ hn2 (anZ hf (anZ k2 (anZ k4 (anZ k6 (anZ r1 r2)))))))))
    clear h2 st2 in2 hn2 hf hf2 k1 k2 k3 k4 k5 k6 r1 r2 r3 hcv hr2 c0 c2 c3 hR hln2 hall hbig hbl hlt hkn hm0 hL0
    go_wp2_with fail
    refine FL.mono ?_
    rintro e w3 ⟨v3,rfl,hr3,hb3⟩
    clear FL c1
    obtain ⟨v3a,v3c,rfl,_⟩:=hr3.shape
    obtain ⟨n3,hn3⟩:∃ n3,n3=((shareL (lvl'+1) (fillL (lvl'+1) (kids.map kidE))).map (mkN (lvl'+1))).length:=⟨_,rfl⟩
    rw [← hn3]
    rw [← hn3] at hr3
    have H3:=Lib.hid (anZ hr3 (anZ hb3 hn3))
    clear hr3 hb3 hn3
    go_wp2
    obtain ⟨hR,hln2,hall,hbig,hbl,hlt⟩:=H1.out
    obtain ⟨h2,st2,in2,hn2,hf,k2,k4,k6,r1,r2⟩:=H2.out
    obtain ⟨hr3,hb3,hn3⟩:=H3.out
    have hB3:(placeB (Ls'.map (mkN lvl')) n2).length=n2:=placeB_length (by rw [List.length_map]; omega)
    rw [List.append_assoc] at r1
    rw [Nat.add_assoc] at r1 k6 hf
    refine ⟨⟨lvl'+1,_,i2+n2,BL'++placeB (Ls'.map (mkN lvl')) n2,S2,tv2,bv2,kids.flatMap Sb.pgs, {
     st:=by rw [List.append_assoc] at h2; exact h2.below hb3,stp:=(hR.stp.trans st2).bel hb3,inc:=fun q hq=>in2 q (hR.inc q hq),rd:=hr3,free:=hf,len:=by rw [List.length_append,hR.len,hB3]
     b512:=fun b hb=>(List.mem_append.1 hb).elim (hR.b512 b) (placeB_512 hall n2 b),rs:=r1,perm:=?_,out:=k6,lev:=?_,most:=?_ }⟩,?_⟩
    ·refine k4.trans ?_
     rw [placeT_add,tdones_add, ← List.append_assoc]
     exact hR.perm.append_right _
    ·have:=hR.lev
     omega
    ·have h8:=hR.most
     have h9:=mostN_mono _ _ _ (Nat.le_refl _) (show (shareL (lvl'+1) (fillL (lvl'+1) (kids.map kidE))).length≤2*(Ls'.length*38) / 503+1 by rw [k2,hn2] at r2; exact r2)
     omega
    ·show n3 < ln
     rw [hn3,List.length_map]
     omega
   ·clear PL
    have H2:=Lib.hid (anZ hf2 (anZ h2 (anZ st2 (anZ in2 (anZ hlt2 hnone)))))
    clear hf2 h2 st2 in2 hlt2 hnone
    go_wp2
    go_ret2
    obtain ⟨hR,hln2,hall,hbig,hbl,hlt⟩:=H1.out
    obtain ⟨hf2,h2,st2,in2,hlt2,hnone⟩:=H2.out
    rw [List.length_map] at hlt2
    have hf:=free_add hR.free hf2
    rw [tdones_add, ← placeT_add,Nat.add_assoc,List.append_assoc] at h2
    rw [tdones_add,Nat.add_assoc] at hnone
    rw [Nat.add_assoc] at hf
    have hm0:=mostN_le Ls'.length
    have h8:=hR.most
    have hB3:(placeB (Ls'.map (mkN lvl')) n2).length=n2:=placeB_length (by rw [List.length_map]; omega)
    exact ⟨i2+n2,BL'++placeB (Ls'.map (mkN lvl')) n2,S2,tv2,bv2,h2,hR.stp.trans st2,fun q hq=>in2 q (hR.inc q hq),hf,by rw [List.length_append,hR.len,hB3],fun b hb=>(List.mem_append.1 hb).elim (hR.b512 b) (placeB_512 hall n2 b),by omega, .inr ⟨by omega,hnone,rfl⟩⟩
  ·have hi:¬ (1:Int) < (ln:Int):=by omega
   rcases Ls' with _ | ⟨L,_ | ⟨L2,r⟩⟩
   ·have h0:ln=0:=hln2
    subst h0
    have H1:=Lib.hid hR
    clear hR hln hln2 hlev hmost hmle hbl hb512 hlt
    go_wp2
    go_ret2
    have hR:=H1.out
    have h8:=hR.most
    exact ⟨i2,BL',S',tv',bv',hR.st,hR.stp,hR.inc,hR.free,hR.len,hR.b512,by omega, .inl ⟨-1,pg',rfl,rise_none hR.rs,hR.perm⟩⟩
   ·have h1:ln=1:=hln2
    subst h1
    obtain ⟨g,o,cap,xa,xc,ya,yc,e0,hg,c0,c1,c2,c3,hxe,hye⟩:=hR.rd.nod (i:=0) (n:=mkN lvl' L) rfl
    simp only [Value.slice.injEq] at e0
    obtain ⟨rfl, -,rfl⟩:=e0
    rw [Nat.zero_mul,Nat.add_zero] at c0 c1 c2 c3
    replace c0:wr.cell? ⟨g,o,none⟩=some (.int .i64 0):=c0
    replace c1:wr.cell? ⟨g,o+1,none⟩=some (.int .i64 (lvl':Int)):=c1
    replace c2:wr.cell? ⟨g,o+2,none⟩=some (.slice xa L.length xc):=c2
    replace c3:wr.cell? ⟨g,o+3,none⟩=some (.slice ya 0 yc):=c3
    replace hxe:Rd kdEn wr S' (.slice xa L.length xc) L:=hxe
    obtain ⟨lb,hlb⟩:∃ lb,lb=loneB lvl' L.length:=⟨_,rfl⟩
    have LO:=lone_any (p:=0) (lvl:=lvl') (tv:=.slice ya 0 yc) wr hxe
    rw [← hlb] at LO
    obtain ⟨xn,hxn⟩:∃ xn,xn=L.length:=⟨_,rfl⟩
    rw [← hxn] at LO hxe c2
    have hxpos:0 < xn:=by rw [hxn]; exact List.length_pos_iff.2 (hR.rs.ok L (by simp)).1
    have hx0:(0:Int) < (xn:Int):=by omega
    have H1:=Lib.hid (anZ hR (anZ hlb (anZ hxe (anZ hxn (anZ hbl hxpos)))))
    clear hR hln hln2 hlev hmost hmle hbl hb512 hlt hlb hxe hxn hye hxpos
    go_wp2_with fail
    refine LO.mono ?_
    rintro e w2 ⟨rfl,hb2⟩
    clear LO
    have d2:w2.cell? ⟨g,o+2,none⟩=some (.slice xa xn xc):=(hb2.cell (p:=⟨g,o+2,none⟩) hg).trans c2
    clear c0 c1 c2 c3
    obtain ⟨hR,hlb,hxe,hxn,hbl,hxpos⟩:=H1.out
    cases lb with
    | true =>
     obtain ⟨e,he,hrt⟩:=rise_lone hR.rs hlb.symm (by have:=hR.lev; have:=HH.out.2.2.2.2.2.2.2.1; omega) HH.out.2.2.2.2.2.1
     obtain ⟨g2,o2,cap2,ka,kc,va,vc,e0,hg2,k0,k1,k2,_,_⟩:=(hxe.step (Step.of_below hb2 _)).ent he
     simp only [Value.slice.injEq] at e0
     obtain ⟨rfl, -,rfl⟩:=e0
     rw [Nat.zero_mul,Nat.add_zero] at k2
     have H2:=Lib.hid (anZ hb2 hrt)
     clear hR hlb hxe hxn hbl hxpos hb2 k0 k1 he hrt
     go_wp2
     go_ret2
     obtain ⟨hR,hlb,hxe,hxn,hbl,hxpos⟩:=H1.out
     obtain ⟨hb2,hrt⟩:=H2.out
     have h8:=hR.most
     exact ⟨i2,BL',S',tv',bv',hR.st.below hb2,hR.stp.bel hb2,hR.inc,hR.free,hR.len,hR.b512,by omega, .inl ⟨_,pg',rfl,hrt,hR.perm⟩⟩
    | false =>
     have hnd:=rise_alone hR.rs hlb.symm
     have hm1:mostN [L].length=1:=mostN_small (Nat.le_refl 1)
     have hmost:i2+1≤mostN n0:=by have:=hR.most; rw [hm1] at this; exact this
     have hlev:lvl'+1≤lm:=hR.lev
     have hb512:=hR.len
     have hall:∀ L'∈[L],NdOk ps.length lvl' L':=fun L' hL'=>by rw [List.mem_singleton.1 hL']; exact hnd
     have PL:=tplace_any (P:=P) (hR.st.below hb2) (hR.rd.step (Step.of_below hb2 _)) HH.out.2.1 (by rw [tdones_length]; exact HH.out.2.2.1) (fun j hj n hn=>HH.out.2.2.2.1 n (least_free hn)) (fun n hn=>by
        obtain ⟨L,hL,rfl⟩:=List.mem_map.1 hn
        have hok:=hall L hL
        exact ⟨hok.1.1,EOk.few hok.1.2.2.2,fun e he=>by have:=(hok.1.2.2.2 e he).2.2.1; have:=HH.out.2.2.2.2.2.2.2.2.2.1; omega,hok.1.2.1,by have:=HH.out.2.2.2.2.2.2.2.1; show lvl'≤65535; omega⟩)
       (by have:=HH.out.2.2.2.2.2.2.2.2.1; show (placeT ps (i1+i2)).length≤_; rw [placeT_length]; omega) (by have:=HH.out.2.2.2.2.2.2.2.2.1; show (BL++BL').length≤_; rw [List.length_append]; omega) (by show ([L].map (mkN lvl')).length≤_; simp)
     have H2:=Lib.hid (anZ hb2 (anZ hall hm1))
     clear hR hlb hxe hxn hbl hxpos hb2 hnd hmost hlev hb512 hm1 hall d2
     go_wp2_with fail
     refine PL.mono ?_
     rintro e w3 ⟨n2,S2,tv2,bv2,hf2,h2,st2,in2,(⟨hn2,cv,rfl,hcv⟩ | ⟨hlt2,hnone,rfl⟩)⟩
     ·clear PL
      obtain ⟨hR,hlb,hxe,hxn,hbl,hxpos⟩:=H1.out
      obtain ⟨hb2,hall,hm1⟩:=H2.out
      replace hn2:n2=1:=hn2
      subst hn2
      have hf:=free_add hR.free hf2
      rw [tdones_add, ← placeT_add,Nat.add_assoc,List.append_assoc] at h2
      obtain ⟨kids,k1,k2,k3,k4,k5,k6⟩:=rise_up (D:=D) (fr:=fr) (n:=1) (i:=i1+i2) HH.out.2.2.2.2.2.2.2.2.2.1 HH.out.2.2.2.2.2.2.2.2.2.2 (by rw [List.length_append,hbl,hR.len]) rfl hf HH.out.2.2.2.1 hR.out hall hR.rs.nb
      obtain ⟨k,rfl⟩:=List.length_eq_one_iff.1 k2
      rw [k1] at hcv
      obtain ⟨g2,o2,cap2,ka,kc,va,vc,e0,hg2,d0,d1,d2,_,_⟩:=hcv.ent (i:=0) (e:=kidE k) rfl
      obtain ⟨kn,hkn⟩:∃ kn:Nat,kn=1:=⟨_,rfl⟩
      replace e0:cv = .slice (some ⟨g2,o2,none⟩) 1 cap2:=e0
      rw [← hkn] at e0
      subst e0
      have hkp0:(0:Int) < (kn:Int):=by omega
      clear hkn
      rw [Nat.zero_mul,Nat.add_zero] at d2
      replace d2:w3.cell? ⟨g2,o2+2,none⟩=some (.int .i64 (k.page:Nat)):=d2
      have H3:=Lib.hid (anZ h2 (anZ st2 (anZ in2 (anZ hf (anZ k3 (anZ k4 k5))))))
      clear h2 st2 in2 hf hf2 k1 k2 k3 k4 k5 k6 hcv d0 d1 hR hlb hxe hxn hbl hxpos hb2 hall hm1 hi hx0
      have d3:=d2
      obtain ⟨kp,hkp⟩:∃ kp:Int,kp=(k.page:Int):=⟨_,rfl⟩
      rw [← hkp] at d3
      have HK:=Lib.hid hkp
      clear d2 hkp
      go_wp2
      go_ret2
      obtain ⟨hR,hlb,hxe,hxn,hbl,hxpos⟩:=H1.out
      obtain ⟨hb2,hall,hm1⟩:=H2.out
      obtain ⟨h2,st2,in2,hf,k3,k4,k5⟩:=H3.out
      have h8:i2+1≤mostN n0:=by have:=hR.most; rw [hm1] at this; exact this
      rw [Nat.add_assoc] at hf
      rw [List.append_assoc,Nat.add_assoc] at k5
      have hB3:(placeB ([L].map (mkN lvl')) 1).length=1:=placeB_length (by simp)
      refine ⟨i2+1,BL'++placeB ([L].map (mkN lvl')) 1,S2,tv2,bv2,h2,(hR.stp.bel hb2).trans st2,fun q hq=>in2 q (hR.inc q hq),hf,by rw [List.length_append,hR.len,hB3],fun b hb=>(List.mem_append.1 hb).elim (hR.b512 b) (placeB_512 hall 1 b),h8, .inl ⟨_,[k].flatMap Sb.pgs,rfl,⟨.inr ⟨lvl',k,k5 k (by simp),HK.out,by rw [k3]; simp,by simp,by have h5:lvl'+1≤lm:=hR.lev; have:=HH.out.2.2.2.2.2.2.2.1; omega⟩,HH.out.2.2.2.2.2.1⟩,?_⟩⟩
      refine k4.trans ?_
      rw [placeT_add,tdones_add, ← List.append_assoc]
      exact hR.perm.append_right _
     ·clear PL
      have H3:=Lib.hid (anZ hf2 (anZ h2 (anZ st2 (anZ in2 (anZ hlt2 hnone)))))
      clear hf2 h2 st2 in2 hlt2 hnone
      go_wp2
      go_ret2
      obtain ⟨hR,hlb,hxe,hxn,hbl,hxpos⟩:=H1.out
      obtain ⟨hb2,hall,hm1⟩:=H2.out
      obtain ⟨hf2,h2,st2,in2,hlt2,hnone⟩:=H3.out
      have hn2:n2=0:=by have:n2 < 1:=hlt2; omega
      subst hn2
      have hf:=free_add hR.free hf2
      rw [tdones_add, ← placeT_add,Nat.add_assoc,List.append_assoc] at h2
      rw [tdones_add,Nat.add_assoc] at hnone
      rw [Nat.add_assoc] at hf
      have h8:i2+1≤mostN n0:=by have:=hR.most; rw [hm1] at this; exact this
      have hB3:(placeB ([L].map (mkN lvl')) 0).length=0:=placeB_length (by simp)
      exact ⟨i2+0,BL'++placeB ([L].map (mkN lvl')) 0,S2,tv2,bv2,h2,(hR.stp.bel hb2).trans st2,fun q hq=>in2 q (hR.inc q hq),hf,by rw [List.length_append,hR.len,hB3],fun b hb=>(List.mem_append.1 hb).elim (hR.b512 b) (placeB_512 hall 0 b),by omega, .inr ⟨by omega,hnone,rfl⟩⟩
   ·exact absurd hlt (by rw [hln2]; simp)
end Go.Proofs.YtgkofgifoiinkaaGreat
namespace Go.Proofs.YtgkofgifoiinkaaGreat
open Go.RowKit
def writesP (fr:Nat):Dv→List (Nat × Bytes)→Dv × Int
 | D,[]=>(D,0)
 | D,(k,b)::r=>if wcode D ((fr+k:Nat):Int) b=0 then writesP fr (wdev D ((fr+k:Nat):Int) b) r else (wdev D ((fr+k:Nat):Int) b,wcode D ((fr+k:Nat):Int) b)
theorem writesP_snoc (fr:Nat):∀ (D:Dv) (l:List (Nat × Bytes)) (k:Nat) (b:Bytes),(writesP fr D l).2=0→writesP fr D (l++[(k,b)])=(wdev (writesP fr D l).1 ((fr+k:Nat):Int) b,wcode (writesP fr D l).1 ((fr+k:Nat):Int) b)
 | D,[],k,b,_=>by
  show (if wcode D ((fr+k:Nat):Int) b=0 then _ else _)=_
  split
  ·rename_i h
   show (wdev D ((fr+k:Nat):Int) b,(0:Int))=(wdev D ((fr+k:Nat):Int) b,wcode D ((fr+k:Nat):Int) b)
   rw [h]
  ·rfl
 | D,(k',b')::r,k,b,h=>by
  rw [List.cons_append]
  unfold writesP at h ⊢
  split
  ·rename_i h0
   rw [if_pos h0] at h
   exact writesP_snoc fr _ r k b h
  ·rename_i h0
   rw [if_neg h0] at h
   exact absurd h h0
theorem writesP_more (fr:Nat):∀ (D:Dv) (l m:List (Nat × Bytes)),(writesP fr D l).2≠0→writesP fr D (l++m)=writesP fr D l
 | D,[],m,h=>absurd rfl h
 | D,(k',b')::r,m,h=>by
  rw [List.cons_append]
  unfold writesP at h ⊢
  split
  ·rename_i h0
   rw [if_pos h0] at h
   exact writesP_more fr _ r m h
  ·rfl
theorem writesP_upto (fr:Nat) {n:Nat}:∀ {D:Dv} (l:List (Nat × Bytes)),Upto D n→Upto (writesP fr D l).1 (n+l.length)∧(writesP fr D l).1.bk.length=D.bk.length
 | D,[],h=>⟨h,rfl⟩
 | D,(k,b)::r,h=>by
  have h1:=wdev_upto h ((fr+k:Nat):Int) b
  unfold writesP
  split
  ·have h2:=writesP_upto fr (n:=n+1) r h1.1
   refine ⟨h2.1.more (by simp; omega),h2.2.trans h1.2⟩
  ·exact ⟨h1.1.more (by simp),h1.2⟩
section
variable {w w':World} {tb db pb fr:Nat} {D D':Dv} {l:List Pg} {wb:Nat} {top:Nd} {k:Wk} {S F G:Nat→Prop} {tev ttv tv bv xv:Value}
theorem StAt.device (h:StAt w tb db pb fr D l wb top k S F G tev ttv tv bv xv) (hd:Dev w' db D' (Grow F w w')) (ho:Only F w w') (hl:D'.bk.length=D.bk.length):StAt w' tb db pb fr D' l wb top k (Grow S w w') (Grow F w w') G tev ttv tv bv xv∧Step S w w' (Grow S w w'):=by
 have hst:Step S w w' (Grow S w w'):=⟨ho.mono fun q _ hq=>h.tr.fs q hq,fun q hq=>hq.elim .inl fun e=>.inr e.1⟩
 have hsame:∀ g,g < w.heap.size→¬ F g→w'.heap[g]? = w.heap[g]?:=fun g h1 h2=>ho.block g h1 h2
 have hgr:∀ g,g < w.heap.size→¬ F g→¬ Grow F w w' g:=fun g h1 h2 h3=>h3.elim h2 fun e=>by have:=e.1; omega
 have htb:¬ F tb:=fun hf=>h.tr.out (h.tr.fs tb hf)
 exact ⟨{
  tr:=⟨h.tr.tree.kept (hsame _ h.tr.tree.lt htb),hd,h.tr.pgs.kept (fun q hq=>hsame q (h.tr.pgs.fl q hq) (fun hf=>h.tr.fg q hf hq)) ho.size,fun q hq hg=>hgr q (h.tr.pgs.fl q hg) (fun hf=>h.tr.fg q hf hg) hq,
   fun q hq=>hq.elim (fun h1=>.inl (h.tr.fs q h1)) .inr,fun q hq=>.inl (h.tr.gs q hq),fun q hq=>hq.elim (fun h1=>Nat.lt_of_lt_of_le (h.tr.lt q h1) ho.size) (fun e=>e.2),
   fun hq=>hq.elim h.tr.out fun e=>by have:=h.tr.tree.lt; have:=e.1; omega,by rw [hl]; exact h.tr.room⟩
  cel:=h.cel.kept (hsame _ h.cel.lt h.wf.1),te:=h.te.step hst,tt:=h.tt.step hst
  rt:=h.rt.keep (fun g hg=>hsame g (h.rt.own hg) (h.tf g hg).1) hst (fun _ hq=>.inl hq)
  rb:=h.rb.keep (fun g hg=>hsame g (h.rb.own hg) (h.bf g hg).1) hst (fun _ hq=>.inl hq)
  rx:=h.rx.keep (fun g hg=>hsame g (h.rx.own hg) (h.xf g hg).1) hst (fun _ hq=>.inl hq)
  ws:=.inl h.ws,wf:=⟨hgr _ h.cel.lt h.wf.1,h.wf.2⟩
  tf:=fun q hq=>⟨hgr q (h.rt.own hq) (h.tf q hq).1,(h.tf q hq).2⟩
  bf:=fun q hq=>⟨hgr q (h.rb.own hq) (h.bf q hq).1,(h.bf q hq).2⟩
  xf:=fun q hq=>⟨hgr q (h.rx.own hq) (h.xf q hq).1,(h.xf q hq).2⟩
  tx:=h.tx,tbn:=h.tbn,bx:=h.bx },hst⟩
theorem Ro.blk {ls:List Bytes} (h:Ro kdBs 24 w S bv ls) {i:Nat} {b:Bytes} (hb:ls[i]? = some b):∃ g o cap ba bc,bv = .slice (some ⟨g,o,none⟩) ls.length cap∧g < w.heap.size∧w.cell? ⟨g,o+i,none⟩=some (.slice ba b.length bc)∧Bsf w S (.slice ba b.length bc) b:=by
 obtain ⟨ts,h1,h2,h3,h4⟩:=h
 have hlen:=(List.getElem?_eq_some_iff.1 hb).1
 obtain ⟨g,o,cap,e1,_,_,hg,hc⟩:=(Rw.of_own h2).open (by omega) (by decide)
 have hb2:=hb
 rw [← h1,List.getElem?_map] at hb2
 obtain ⟨t,ht,e⟩:=Option.map_eq_some_iff.1 hb2
 have h5:=h3 t (List.mem_of_getElem? ht)
 have h6:=hc _ _ (kdBs.cells_at ht (j:=0) (u:=t.s.v) rfl)
 obtain ⟨⟨ba,bn,bc⟩,bl⟩:=t
 have e:bl=b:=e
 subst e
 obtain ⟨_,_,e2,_⟩:=Bs.shape h5.1
 simp only [Sl.v,Value.slice.injEq] at e2
 obtain ⟨_,rfl,_⟩:=e2
 exact ⟨g,o,cap,ba,bc,e1,hg,by simpa [kdBs,Sl.v] using h6,h5⟩
theorem Ro.int {ls:List Nat} (h:Ro kdIn 3 w S bv (ints ls)) {i n:Nat} (hb:ls[i]? = some n):∃ g o cap,bv = .slice (some ⟨g,o,none⟩) ls.length cap∧g < w.heap.size∧w.cell? ⟨g,o+i,none⟩=some (.int .i64 (n:Int)):=by
 obtain ⟨ts,h1,h2,h3,h4⟩:=h
 have hlen:=(List.getElem?_eq_some_iff.1 hb).1
 rw [ints_length] at h2
 obtain ⟨g,o,cap,e1,_,_,hg,hc⟩:=(Rw.of_own h2).open (by omega) (by decide)
 have ht:ts[i]? = some (n:Int):=by
  have:(ts.map kdIn.con)[i]? = (ints ls)[i]?:=by rw [h1]
  simpa [kdIn,ints,hb] using this
 have h6:=hc _ _ (kdIn.cells_at ht (j:=0) (u:=.int .i64 (n:Int)) rfl)
 exact ⟨g,o,cap,e1,hg,by simpa [kdIn] using h6⟩
set_option maxRecDepth 100000 in
set_option maxHeartbeats 2000000 in
theorem write_at {n:Nat} (h:StAt w tb db pb fr D l wb top k S F G tev ttv tv bv xv) (hlen:k.BL.length=k.T.length) (h512:∀ b∈k.BL,b.length=512) (hT:∀ t∈k.T,t < 4096) (hfr:fr≤4096) (hu:Upto D n) (hn:n+k.T.length < 4294967296) :
  Calls Tryz.prog 167 #[ptr wb] w fun e w'=>e = .returned (err (writesP fr D (k.T.zip k.BL)).2)∧∃ S' F',StAt w' tb db pb fr (writesP fr D (k.T.zip k.BL)).1 l wb top k S' F' G tev ttv tv bv xv∧Step S w w' S'∧(∀ q,S q→S' q):=by
 obtain ⟨ta,tc,htv,_⟩:=h.rt.shape
 rw [ints_length] at htv
 subst htv
 obtain ⟨ba0,bc0,hbv,_⟩:=h.rb.shape
 subst hbv
 have t5:w.cell? ⟨wb,5,none⟩=some (.slice ta k.T.length tc):=h.cel.cell 5
 have HH:=Lib.hid (anZ h (anZ h512 (anZ hT (anZ hu hn))))
 have hTl:k.T.length < 4294967296:=by omega
 clear h h512 hT hu hn
 go_enter Tryz.func167,Tryz.ntmps167
 go_wp2
 clear t5
 go_loopw [11] (fun i wr=>∃ j:Nat,j≤k.T.length∧i = .int .i64 j∧(writesP fr D ((k.T.zip k.BL).take j)).2=0∧∃ S' F',StAt wr tb db pb fr (writesP fr D ((k.T.zip k.BL).take j)).1 l wb top k S' F' G tev ttv (.slice ta k.T.length tc) (.slice ba0 k.BL.length bc0) xv∧Step S w wr S'∧(∀ q,S q→S' q)) (fun i _=>k.T.length-(intOf i).toNat)
 case atStart=>exact ⟨0,Nat.zero_le _,rfl,rfl,S,F,HH.out.1,Step.refl _ _,fun _ h=>h⟩
 case round =>
  obtain ⟨j,hj,rfl,hw0,S1,F1,hst,stp,hin⟩:=hrel
  by_cases hlt:j < k.T.length
  ·obtain ⟨t,ht⟩:∃ t,k.T[j]? = some t:=⟨_,List.getElem?_eq_getElem hlt⟩
   obtain ⟨bl,hbl⟩:∃ bl,k.BL[j]? = some bl:=⟨_,List.getElem?_eq_getElem (by omega)⟩
   have hz:(k.T.zip k.BL)[j]? = some (t,bl):=by rw [List.getElem?_zip_eq_some]; exact ⟨ht,hbl⟩
   obtain ⟨tg,toZ,tcap,e0,htg,c0⟩:=hst.rt.int ht
   simp only [Value.slice.injEq] at e0
   obtain ⟨rfl,_,rfl⟩:=e0
   obtain ⟨bg,bo,bc,ba,bcc,e0,hbg,c1,hbs⟩:=hst.rb.blk hbl
   simp only [Value.slice.injEq] at e0
   obtain ⟨rfl,_,rfl⟩:=e0
   have hb512:=HH.out.2.1 bl (List.mem_of_getElem? hbl)
   have ht4:=HH.out.2.2.1 t (List.mem_of_getElem? ht)
   have hil:(j:Int) < (k.T.length:Int):=by omega
   have hup:=writesP_upto fr ((k.T.zip k.BL).take j) HH.out.2.2.2.1
   have hsm:Small (writesP fr D ((k.T.zip k.BL).take j)).1:=hup.1.small (by have:=HH.out.2.2.2.2; rw [List.length_take,List.length_zip]; omega)
   have hst1:=hst.below (below_drewN (Below.refl _ _) 1)
   have hbs1:=hbs.step (Step.of_below (below_drewN (Below.refl wr.heap.size wr) 1) S1)
   have DW:=dwrite_any hst1.tr.dev hsm ((fr+t:Nat):Int) hbs1.1 (fun q hq hf=>hbs1.2 (fun e=>by rw [e] at hb512; cases hb512) q hq (hst1.tr.fs q hf))
   have hsn:=writesP_snoc fr D ((k.T.zip k.BL).take j) t bl hw0
   have htk:(k.T.zip k.BL).take (j+1)=(k.T.zip k.BL).take j++[(t,bl)]:=by rw [List.take_add_one,hz]; rfl
   have hft:((fr+t:Nat):Int)=(fr:Int)+(t:Int):=by omega
   obtain ⟨bn,hbn⟩:∃ bn,bn=k.BL.length:=⟨_,rfl⟩
   have s0:wr.drew.cell? ⟨wb,0,none⟩=some (ptr tb):=hst1.cel.cell 0
   have s1:wr.drew.cell? ⟨tb,0,none⟩=some (ptr db):=hst1.tr.tree.cell 0
   have s2:wr.drew.cell? ⟨tb,2,none⟩=some (.int .i64 (fr:Nat)):=hst1.tr.tree.cell 2
   have s3:wr.drew.cell? ⟨wb,6,none⟩=some (.slice (some ⟨bg,bo,none⟩) bn bc0):=by rw [hbn]; exact hst1.cel.cell 6
   have s4:wr.drew.cell? ⟨bg,bo+j,none⟩=some (.slice ba bl.length bcc):=c1
   have hwr:IntKind.i64.wrap ((fr:Int)+(t:Int))=(fr:Int)+(t:Int):=by rw [IntKind.wrap_i64]; omega
   have hjb:(j:Int) < (bn:Int):=by omega
   have hj0:(0:Int)≤(j:Int):=by omega
   rw [hft] at DW hsn
   have HX:=Lib.hid (fun (W:World) (hW:W.cell? ⟨wb,0,none⟩=some (ptr tb)∧W.cell? ⟨tb,0,none⟩=some (ptr db)∧W.cell? ⟨tb,2,none⟩=some (.int .i64 (fr:Nat))∧W.cell? ⟨wb,6,none⟩=some (.slice (some ⟨bg,bo,none⟩) bn bc0)∧W.cell? ⟨bg,bo+j,none⟩=some (.slice ba bl.length bcc))=>anZ hW (anZ hwr (anZ hjb hj0)))
   have H2:=Lib.hid (anZ hst1 (anZ stp (anZ hin (anZ hsn (anZ htk (anZ hup hw0))))))
   clear hst hst1 stp hin hsn htk hup hw0 hbs hbs1 hsm ht hbl hz hft hb512 ht4 hwr hjb hj0 c1 hbn
   generalize (writesP fr D ((k.T.zip k.BL).take j)).1=D1 at *
   go_wp2_with fail
   refine region_till 99 (fun W=>W.cell? ⟨wb,0,none⟩=some (ptr tb)∧W.cell? ⟨tb,0,none⟩=some (ptr db)∧W.cell? ⟨tb,2,none⟩=some (.int .i64 (fr:Nat))∧W.cell? ⟨wb,6,none⟩=some (.slice (some ⟨bg,bo,none⟩) bn bc0)∧W.cell? ⟨bg,bo+j,none⟩=some (.slice ba bl.length bcc)) (by kernel_rfl) ⟨s0,s1,s2,s3,s4⟩ (fun hS=>?_)
   refine tkZ (i:=0) 16 (ptr wb) rfl rfl (by kernel_rfl) (fun _ _ _ h=>h) (by rfl) (fun W hW=>?_) hS ?_
   ·have hx:=HX.out W hW
    clear hW
    go_simp
   simp only [Act.put,sAZ,sBZ,sCZ]
   refine tkZ (i:=1) 17 (ptr wb) rfl rfl (by kernel_rfl) (fun _ _ _ h=>h) (by rfl) (fun W hW=>?_) hS ?_
   ·have hx:=HX.out W hW
    clear hW
    go_simp
   simp only [Act.put,sAZ,sBZ,sCZ]
   refine tkZ (i:=2) 18 (.pointer (some ⟨wb,0,none⟩)) rfl rfl (by kernel_rfl) (fun _ _ _ h=>h) (by rfl) (fun W hW=>?_) hS ?_
   ·have hx:=HX.out W hW
    clear hW
    go_simp
   simp only [Act.put,sAZ,sBZ,sCZ]
   refine tkZ (i:=3) 19 (ptr tb) rfl rfl (by kernel_rfl) (fun _ _ _ h=>h) (by rfl) (fun W hW=>?_) hS ?_
   ·have hx:=HX.out W hW
    clear hW
    go_simp
   simp only [Act.put,sAZ,sBZ,sCZ]
   refine tkZ (i:=4) 20 (ptr tb) rfl rfl (by kernel_rfl) (fun _ _ _ h=>h) (by rfl) (fun W hW=>?_) hS ?_
   ·have hx:=HX.out W hW
    clear hW
    go_simp
   simp only [Act.put,sAZ,sBZ,sCZ]
   refine tkZ (i:=5) 21 (.pointer (some ⟨tb,0,none⟩)) rfl rfl (by kernel_rfl) (fun _ _ _ h=>h) (by rfl) (fun W hW=>?_) hS ?_
   ·have hx:=HX.out W hW
    clear hW
    go_simp
   simp only [Act.put,sAZ,sBZ,sCZ]
   refine tkZ (i:=6) 22 (ptr db) rfl rfl (by kernel_rfl) (fun _ _ _ h=>h) (by rfl) (fun W hW=>?_) hS ?_
   ·have hx:=HX.out W hW
    clear hW
    go_simp
   simp only [Act.put,sAZ,sBZ,sCZ]
   refine tkZ (i:=7) 23 (ptr wb) rfl rfl (by kernel_rfl) (fun _ _ _ h=>h) (by rfl) (fun W hW=>?_) hS ?_
   ·have hx:=HX.out W hW
    clear hW
    go_simp
   simp only [Act.put,sAZ,sBZ,sCZ]
   refine tkZ (i:=8) 24 (ptr wb) rfl rfl (by kernel_rfl) (fun _ _ _ h=>h) (by rfl) (fun W hW=>?_) hS ?_
   ·have hx:=HX.out W hW
    clear hW
    go_simp
   simp only [Act.put,sAZ,sBZ,sCZ]
   refine tkZ (i:=9) 25 (.pointer (some ⟨wb,0,none⟩)) rfl rfl (by kernel_rfl) (fun _ _ _ h=>h) (by rfl) (fun W hW=>?_) hS ?_
   ·have hx:=HX.out W hW
    clear hW
    go_simp
   simp only [Act.put,sAZ,sBZ,sCZ]
   refine tkZ (i:=10) 26 (ptr tb) rfl rfl (by kernel_rfl) (fun _ _ _ h=>h) (by rfl) (fun W hW=>?_) hS ?_
   ·have hx:=HX.out W hW
    clear hW
    go_simp
   simp only [Act.put,sAZ,sBZ,sCZ]
   refine tkZ (i:=11) 27 (ptr tb) rfl rfl (by kernel_rfl) (fun _ _ _ h=>h) (by rfl) (fun W hW=>?_) hS ?_
   ·have hx:=HX.out W hW
    clear hW
    go_simp
   simp only [Act.put,sAZ,sBZ,sCZ]
   refine tkZ (i:=12) 28 (.pointer (some ⟨tb,2,none⟩)) rfl rfl (by kernel_rfl) (fun _ _ _ h=>h) (by rfl) (fun W hW=>?_) hS ?_
   ·have hx:=HX.out W hW
    clear hW
    go_simp
   simp only [Act.put,sAZ,sBZ,sCZ]
   refine tkZ (i:=13) 29 (.int .i64 (fr:Nat)) rfl rfl (by kernel_rfl) (fun _ _ _ h=>h) (by rfl) (fun W hW=>?_) hS ?_
   ·have hx:=HX.out W hW
    clear hW
    go_simp
   simp only [Act.put,sAZ,sBZ,sCZ]
   refine tkZ (i:=14) 30 (.int .i64 (t:Int)) rfl rfl (by kernel_rfl) (fun _ _ _ h=>h) (by rfl) (fun W hW=>?_) hS ?_
   ·have hx:=HX.out W hW
    clear hW
    go_simp
   simp only [Act.put,sAZ,sBZ,sCZ]
   refine tkZ (i:=15) 31 (.int .i64 ((fr:Int)+(t:Int))) rfl rfl (by kernel_rfl) (fun _ _ _ h=>h) (by rfl) (fun W hW=>?_) hS ?_
   ·have hx:=HX.out W hW
    clear hW
    go_simp
   simp only [Act.put,sAZ,sBZ,sCZ]
   refine tkZ (i:=16) 32 (ptr wb) rfl rfl (by kernel_rfl) (fun _ _ _ h=>h) (by rfl) (fun W hW=>?_) hS ?_
   ·have hx:=HX.out W hW
    clear hW
    go_simp
   simp only [Act.put,sAZ,sBZ,sCZ]
   refine tkZ (i:=17) 33 (ptr wb) rfl rfl (by kernel_rfl) (fun _ _ _ h=>h) (by rfl) (fun W hW=>?_) hS ?_
   ·have hx:=HX.out W hW
    clear hW
    go_simp
   simp only [Act.put,sAZ,sBZ,sCZ]
   refine tkZ (i:=18) 34 (.pointer (some ⟨wb,6,none⟩)) rfl rfl (by kernel_rfl) (fun _ _ _ h=>h) (by rfl) (fun W hW=>?_) hS ?_
   ·have hx:=HX.out W hW
    clear hW
    go_simp
   simp only [Act.put,sAZ,sBZ,sCZ]
   refine tkZ (i:=19) 35 (.slice (some ⟨bg,bo,none⟩) bn bc0) rfl rfl (by kernel_rfl) (fun _ _ _ h=>h) (by rfl) (fun W hW=>?_) hS ?_
   ·have hx:=HX.out W hW
    clear hW
    go_simp
   simp only [Act.put,sAZ,sBZ,sCZ]
   refine tkZ (i:=20) 36 (.int .i64 (j:Int)) rfl rfl (by kernel_rfl) (fun _ _ _ h=>h) (by rfl) (fun W hW=>?_) hS ?_
   ·have hx:=HX.out W hW
    clear hW
    go_simp
   simp only [Act.put,sAZ,sBZ,sCZ]
   refine tkZ (i:=21) 37 (.pointer (some ⟨bg,bo+j,none⟩)) rfl rfl (by kernel_rfl) (fun _ _ _ h=>h) (by rfl) (fun W hW=>?_) hS ?_
   ·have hx:=HX.out W hW
    clear hW
    go_simp
   simp only [Act.put,sAZ,sBZ,sCZ]
   refine tkZ (i:=22) 38 (.slice ba bl.length bcc) rfl rfl (by kernel_rfl) (fun _ _ _ h=>h) (by rfl) (fun W hW=>?_) hS ?_
   ·have hx:=HX.out W hW
    clear hW
    go_simp
   simp only [Act.put,sAZ,sBZ,sCZ]
   refine next_till 23 (by kernel_rfl) rfl (fun K hK=>?_)
   go_simp
   refine DW.mono ?_
   rintro e w2 ⟨rfl,hd2,ho2⟩
   clear DW
   obtain ⟨hst1,stp,hin,hsn,htk,hup,hw0⟩:=H2.out
   obtain ⟨h2,st2⟩:=hst1.device hd2 ho2 (wdev_upto (n:=n+((k.T.zip k.BL).take j).length) hup.1 _ _).2
   have st2':Step S1 wr w2 (Grow S1 wr.drew w2):=(Step.of_below (below_drewN (Below.refl wr.heap.size wr) 1) S1).trans st2
   have hS2:w2.cell? ⟨wb,0,none⟩=some (ptr tb)∧w2.cell? ⟨tb,0,none⟩=some (ptr db)∧w2.cell? ⟨tb,2,none⟩=some (.int .i64 (fr:Nat))∧w2.cell? ⟨wb,6,none⟩=some (.slice (some ⟨bg,bo,none⟩) bn bc0)∧w2.cell? ⟨bg,bo+j,none⟩=some (.slice ba bl.length bcc):=by
    have hs:=hS
    refine ⟨h2.cel.cell 0,h2.tr.tree.cell 0,h2.tr.tree.cell 2,?_,?_⟩
    ·have h6:=h2.cel.cell 6
     have h6':wr.drew.cell? ⟨wb,6,none⟩=_:=hst1.cel.cell 6
     rw [hs.2.2.2.1] at h6'
     rw [h6]
     exact h6'.symm
    ·have hc:wr.drew.cell? ⟨bg,bo+j,none⟩=_:=hs.2.2.2.2
     have hbF:=(hst1.bf bg rfl).1
     rw [World.cell?_of_block (w:=wr.drew) (a:=⟨bg,bo+j,none⟩) (ho2.block bg (hst1.rb.own rfl) hbF)]
     exact hc
   have H3:=Lib.hid (anZ h2 (anZ (stp.trans st2') (fun q hq=>(show Grow S1 wr.drew w2 q from .inl (hin q hq)))))
   have H4:=Lib.hid (anZ hsn htk)
   clear hst1 stp hin hsn htk hup hw0 hd2 ho2 h2 st2 st2' s0 s1 s2 s3 s4 H2
   refine hK.out _ _ (fun _=>hS2) ?_
   clear hK K hS
   refine next_till 24 (by kernel_rfl) rfl (fun K hK=>?_)
   go_simp
   refine hK.out _ _ (fun _=>hS2) ?_
   clear hK K
   refine done_till (by kernel_rfl) ?_ _
   clear HX hS2
   generalize hc:wcode D1 ((fr:Int)+(t:Int)) bl=c at *
   generalize wdev D1 ((fr:Int)+(t:Int)) bl=D2 at *
   by_cases hc0:c=0
   ·subst hc0
    clear hc
    go_wp2
    go_roundw
    case rel =>
     refine ⟨j+1,by omega,by go_num,?_,?_⟩
     ·rw [H4.out.2,H4.out.1]
     ·rw [H4.out.2,H4.out.1]
      exact ⟨_,_,H3.out⟩
    case measure=>simp [intOf]; omega
   ·have hcb:(c == 0)=false:=by rw [beq_eq_false_iff_ne]; exact hc0
    have HC:=Lib.hid hc0
    clear hc hc0
    go_wp2
    go_ret
    have e:writesP fr D (k.T.zip k.BL)=(D2,c):=by
     have h1:k.T.zip k.BL=(k.T.zip k.BL).take (j+1)++(k.T.zip k.BL).drop (j+1):=(List.take_append_drop _ _).symm
     rw [h1,writesP_more fr _ _ _ (by rw [H4.out.2,H4.out.1]; exact HC.out),H4.out.2,H4.out.1]
    rw [e]
    exact ⟨rfl,_,_,H3.out⟩
  ·obtain rfl:j=k.T.length:=by omega
   have hall:(k.T.zip k.BL).take k.T.length=k.T.zip k.BL:=List.take_of_length_le (by rw [List.length_zip]; omega)
   rw [hall] at hw0 hst
   have H2:=Lib.hid (anZ hw0 (anZ hst (anZ stp hin)))
   clear hst stp hin hw0 hall
   go_wp2
   go_ret
   exact ⟨by rw [H2.out.1]; rfl,_,_,H2.out.2⟩
end
end Go.Proofs.YtgkofgifoiinkaaGreat
