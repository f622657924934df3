/- Pages for nodes, as children of another one: the walk of place; conditions: each node has an entry and fits, the pages that are free are none of the root's. -/
import Derived.Test.YtgkofgifoiinkaaGreatN15
import Derived.Test.YtgkofgifoiinkaaGreatN04
import Derived.Deep.CutRange
import Derived.Deep.DeepCutAuto
namespace Go.Proofs.YtgkofgifoiinkaaGreat
open Go.RowKit
def Fits (n:Nd):Prop:=n.ents≠[]∧Few n.ents∧(∀ e∈n.ents,e.page≤4294967295)∧nsize n.lvl n.ents≤503∧n.lvl≤65535
def PlAt (w0 w:World) (tb db pb fr:Nat) (D:Dv) (l:List Pg) (wb:Nat) (top:Nd) (k:Wk) (S0 F G:Nat→Prop) (tev ttv xv lv:Value) (ns:List Nd) (i:Nat) (cv:Value):Prop :=
 ∃ (S:Nat→Prop) (tv bv:Value),StAt w tb db pb fr D (tdones i l) wb top ⟨k.T++placeT l i,k.BL++placeB ns i,k.X⟩ S F G tev ttv tv bv xv∧Ro kdEn 197 w S cv (placeE l ns i)∧Rd kdNd w S lv ns ∧
  Step S0 w0 w S∧(∀ q,S0 q→S q)∧(∀ q,cv.ownBlock=some q→w0.heap.size≤q)∧(∀ q,tv.ownBlock=some q→cv.ownBlock≠some q)∧(∀ q,bv.ownBlock=some q→cv.ownBlock≠some q)
def Places (w0:World) (tb db pb fr:Nat) (D:Dv) (l:List Pg) (wb:Nat) (top:Nd) (k:Wk) (S0 F G:Nat→Prop) (tev ttv xv:Value) (ns:List Nd) (e:Ending) (w:World):Prop :=
 ∃ (i:Nat) (S:Nat→Prop) (tv bv:Value),(∀ j,j < i→leastFree (tdones j l)≠none) ∧
  StAt w tb db pb fr D (tdones i l) wb top ⟨k.T++placeT l i,k.BL++placeB ns i,k.X⟩ S F G tev ttv tv bv xv∧Step S0 w0 w S∧(∀ q,S0 q→S q) ∧
  ((i=ns.length∧∃ cv,e = .returned (.tuple #[cv,err 0])∧Rd kdEn w S cv (placeE l ns i))∨(i < ns.length∧leastFree (tdones i l)=none∧e = .returned (.tuple #[.slice none 0 0,err 7])))
set_option maxRecDepth 100000 in
set_option maxHeartbeats 20000000 in
theorem tplace_any {w:World} {tb db pb fr:Nat} {D:Dv} {l:List Pg} {wb:Nat} {top:Nd} {k:Wk} {S F G:Nat→Prop} {tev ttv tv bv xv lv:Value} {ns:List Nd} {P:List Nat} (h:StAt w tb db pb fr D l wb top k S F G tev ttv tv bv xv) (hn:Rd kdNd w S lv ns) (ho:D.on=true)
  (ht:TopOk (blkOf D fr) l.length top P) (hP:∀ j,j < ns.length→∀ n,leastFree (tdones j l)=some n→n ∉ P) (hf:∀ n∈ns,Fits n) (hT:k.T.length≤100000) (hB:k.BL.length≤100000) (hl:ns.length≤100000) :
  Calls Tryz.prog 169 #[ptr wb,lv] w (Places w tb db pb fr D l wb top k S F G tev ttv xv ns):=by
 obtain ⟨la,lc,rfl,_⟩:=hn.shape
 have hstart:PlAt w w tb db pb fr D l wb top k S F G tev ttv xv (.slice la ns.length lc) ns 0 (.slice none 0 0):=by
  refine ⟨S,tv,bv,?_,Ro.nil _ _ _ _,hn,Step.refl _ _,fun _ h=>h,(fun _ h=>by cases h),(fun _ _ h=>by cases h),(fun _ _ h=>by cases h)⟩
  have e:(⟨k.T++placeT l 0,k.BL++placeB ns 0,k.X⟩:Wk)=k:=by simp [placeT,placeB]
  rw [e]
  exact h
 have hlt:=h.tr.lt
 have hgw:(∀ q,G q→q < w.heap.size)∧wb < w.heap.size:=⟨fun q hq=>h.tr.lt q (h.tr.gs q hq),h.cel.lt⟩
 have hfx:(∀ q,F q→q < w.heap.size)∧∀ q,xv.ownBlock=some q→q < w.heap.size:=⟨fun q hq=>h.tr.lt q (h.tr.fs q hq),fun q hq=>h.rx.own hq⟩
 have HF:=Lib.hid hfx
 have HH:=Lib.hid (anZ ht (anZ hP (anZ hf (anZ hT (anZ hB (anZ hlt (anZ hstart hgw)))))))
 clear ht hP hf hT hB hlt hstart h hn hgw hfx
 go_enter Tryz.func169,Tryz.ntmps169
 go_wp2
 go_loopw [4,13] (fun cv i wr=>∃ j:Nat,j≤ns.length∧i = .int .i64 j∧(∀ m,m < j→leastFree (tdones m l)≠none)∧PlAt w wr tb db pb fr D l wb top k S F G tev ttv xv (.slice la ns.length lc) ns j cv) (fun _ i _=>ns.length-(intOf i).toNat)
 case atStart=>exact ⟨0,Nat.zero_le _,rfl,fun _ h=>absurd h (Nat.not_lt_zero _),HH.out.2.2.2.2.2.2.1⟩
 case round =>
  obtain ⟨j,hj,rfl,hfree,S1,tv1,bv1,h1,ro1,nd1,st1,in1,new1,tc1,bc1⟩:=hrel
  by_cases hlt:j < ns.length
  ·obtain ⟨n,hn⟩:∃ n,ns[j]? = some n:=⟨_,List.getElem?_eq_getElem hlt⟩
   obtain ⟨g,o,cap,ea,ec,ta,tc,e0,hg,c0,c1,c2,c3,hre,hbt⟩:=nd1.nod hn
   simp only [Value.slice.injEq] at e0
   obtain ⟨rfl,_,rfl⟩:=e0
   have hil:(j:Int) < (ns.length:Int):=by omega
   obtain ⟨hf1,hf2,hf3,hf4,hf5⟩:=HH.out.2.2.1 n (List.mem_of_getElem? hn)
   have H1:=Lib.hid (anZ h1 (anZ ro1 (anZ nd1 (anZ st1 (anZ in1 (anZ new1 (anZ tc1 (anZ bc1 (anZ hre (anZ hbt (anZ hn (anZ hfree (anZ hf1 (anZ hf2 (anZ hf3 (anZ hf4 hf5))))))))))))))))
   have hz1:¬ S1 wr.heap.size:=fun hq=>Nat.lt_irrefl _ (h1.tr.lt _ hq)
   have hst1:Step S1 wr (wr.alloc (.cells #[.int .i64 n.page, .int .i64 (n.lvl:Nat), .slice ea n.ents.length ec, .slice ta n.to.length tc] 179)) S1:=(Step.refl S1 wr).alloc _
   have p1:PlX w (wr.alloc (.cells #[.int .i64 n.page, .int .i64 (n.lvl:Nat), .slice ea n.ents.length ec, .slice ta n.to.length tc] 179)) tb db pb fr D (tdones j l) wb top ⟨k.T++placeT l j,k.BL++placeB ns j,k.X⟩ S S1 F G tev ttv tv1 bv1 tv1 bv1 xv (.slice (some ⟨g,o,none⟩) ns.length lc) ns u4 (placeE l ns j) wr.heap.size
     [.int .i64 n.page, .int .i64 (n.lvl:Nat), .slice ea n.ents.length ec, .slice ta n.to.length tc] (.slice ea n.ents.length ec) n.ents (.slice none 0 0) [] :=
    {x:=h1.x.alloc _,ro:=ro1.below ((Below.refl _ _).alloc (Nat.le_refl _) _),nd:=nd1.step hst1,ne:=hre.step hst1,stp:=st1.trans hst1,inc:=in1,new:=new1,tc:=tc1,bc:=bc1,cn:=Cel.new wr _ _,zs:=hz1,sb:=Bsf.nil _ _ }
   have A:=body_any (p:=n.page) (lvl:=n.lvl) (tv:=.slice ta n.to.length tc) (wr.alloc (.cells #[.int .i64 n.page, .int .i64 (n.lvl:Nat), .slice ea n.ents.length ec, .slice ta n.to.length tc] 179)) p1.ne hf2 hf3 (by omega) hf5
   have P1:=Lib.hid p1
   clear p1 hst1 hz1 h1 ro1 nd1 st1 in1 new1 tc1 bc1 hre hbt hn hfree hf1 hf2 hf3 hf4 hf5
   go_wp2_with fail
   refine A.mono ?_
   rintro e w2 ⟨v,rfl,hbs,hb2⟩
   clear A
   have B:=blkSeal_ok 3 w2 hbs (by decide) (by rw [bodyL_length]; have:=H1.out.2.2.2.2.2.2.2.2.2.2.2.2.2.2.2.1; omega)
   have P2:=Lib.hid (P1.out.bel hb2)
   clear P1 hb2 hbs
   go_wp2_with fail
   refine B.mono ?_
   rintro e w3 ⟨sv,rfl,how,hb3⟩
   clear B
   have p3:=P2.out.bel hb3
   have hsb:Bsf w3 S1 sv (sealL 3 (bodyL n.lvl n.ents)):=Bsf.new how fun q hq=>P2.out.x.tr.lt q hq
   obtain ⟨sa,sc,rfl,_⟩:=how.bs.shape
   obtain ⟨sn,hsn⟩:∃ sn,sn=(sealL 3 (bodyL n.lvl n.ents)).length:=⟨_,rfl⟩
   rw [← hsn] at hsb
   have P3:=Lib.hid ({ p3 with sb:=hsb }:PlX w w3 tb db pb fr D (tdones j l) wb top ⟨k.T++placeT l j,k.BL++placeB ns j,k.X⟩ S S1 F G tev ttv tv1 bv1 tv1 bv1 xv (.slice (some ⟨g,o,none⟩) ns.length lc) ns u4 (placeE l ns j) wr.heap.size
     [.int .i64 n.page, .int .i64 (n.lvl:Nat), .slice ea n.ents.length ec, .slice ta n.to.length tc] (.slice ea n.ents.length ec) n.ents (.slice sa sn sc) (sealL 3 (bodyL n.lvl n.ents)))
   rw [← hsn]
   clear P2 p3 hsb how hb3 hsn
   have htop:TopOk (blkOf D fr) (tdones j l).length top P:=by rw [tdones_length]; exact HH.out.1
   cases hlf:leastFree (tdones j l) with
   | none =>
    have T:=wtake_none P3.out.x.at hlf
    have HL:=Lib.hid hlf
    clear hlf htop c0 c1 c2 c3
    go_wp2_with fail
    refine T.mono ?_
    rintro e w4 ⟨rfl,hs4,st4,_⟩
    clear T
    rw [show tpage (tdones j l)=0 by unfold tpage; rw [HL.out],show tcode (tdones j l)=7 by unfold tcode; rw [HL.out]]
    have H4:=Lib.hid (anZ hs4 st4)
    clear hs4 st4
    go_wp2
    go_ret2
    obtain ⟨h1,ro1,nd1,st1,in1,new1,tc1,bc1,hre,hbt,hn,hfree,_⟩:=H1.out
    have hsame:tdone (tdones j l)=tdones j l:=by unfold tdone; rw [HL.out]
    refine ⟨j,S1,tv1,bv1,hfree,hsame ▸ H4.out.1,P3.out.stp.trans H4.out.2,in1, .inr ⟨hlt,HL.out,rfl⟩⟩
   | some m =>
    have T:=wtake_some P3.out.x.at ho htop hlf (HH.out.2.1 j hlt m hlf)
    have HL:=Lib.hid hlf
    clear hlf htop c0 c1 c2 c3
    go_wp2_with fail
    refine T.mono ?_
    rintro e w4 ⟨rfl,hs4,st4,on4⟩
    clear T
    have e1:tpage (tdones j l)=(m:Int):=by unfold tpage; rw [HL.out]
    rw [e1,show tcode (tdones j l)=0 by unfold tcode; rw [HL.out]]
    have em:tooks l j=m:=by unfold tooks; rw [e1]; exact Int.toNat_natCast m
    have P4:=Lib.hid (P3.out.took hs4 st4 on4 fun q hq hg=>by have:=H1.out.2.2.2.2.2.1 q hq; have:=HH.out.2.2.2.2.2.2.2.1 q hg; omega)
    have EM:=Lib.hid em
    clear hs4 st4 on4 P3 e1 em
    obtain ⟨sa1,sc1,htv,_⟩:=P4.out.x.rt.shape
    obtain ⟨sa2,sc2,hbv,_⟩:=P4.out.x.rb.shape
    obtain ⟨tn,htn⟩:∃ tn,tn=(ints (k.T++placeT l j)).length:=⟨_,rfl⟩
    obtain ⟨bn,hbn⟩:∃ bn,bn=(k.BL++placeB ns j).length:=⟨_,rfl⟩
    rw [← htn] at htv
    rw [← hbn] at hbv
    subst htv hbv
    have HN:=Lib.hid (anZ htn hbn)
    clear htn hbn
    go_upto_region 10 with fail
    go_cut [] from 14 to 61 (fun wx=>PlMid w wx tb db pb fr D (tdone (tdones j l)) wb top ⟨(k.T++placeT l j)++[m],(k.BL++placeB ns j)++[sealL 3 (bodyL n.lvl n.ents)],k.X⟩ S F G tev ttv xv (.slice (some ⟨g,o,none⟩) ns.length lc) ns u4 (placeE l ns j) wr.heap.size [.int .i64 n.page, .int .i64 (n.lvl:Nat), .slice ea n.ents.length ec, .slice ta n.to.length tc] (.slice ea n.ents.length ec) n.ents (.slice sa sn sc) (sealL 3 (bodyL n.lvl n.ents)))
    case first =>
     have s1:w4.drew.cell? ⟨wb,5,none⟩=some (.slice sa1 tn sc1):=P4.out.x.cel.cell 5
     have s2:w4.drew.cell? ⟨wb,6,none⟩=some (.slice sa2 bn sc2):=P4.out.x.cel.cell 6
     have HX:=Lib.hid (fun (W:World) (hW:W.cell? ⟨wb,5,none⟩=some (.slice sa1 tn sc1)∧W.cell? ⟨wb,6,none⟩=some (.slice sa2 bn sc2))=>hW)
     refine region_upto 18 (fun W=>W.cell? ⟨wb,5,none⟩=some (.slice sa1 tn sc1)∧W.cell? ⟨wb,6,none⟩=some (.slice sa2 bn sc2)) (by kernel_rfl) ⟨s1,s2⟩ (fun hS=>?_)
     refine pure_upto (i:=0) (some 34) (ptr wb) rfl rfl (by kernel_rfl) (by kernel_rfl) (by kernel_rfl) (by decide) (fun _ _ _ h=>h) (by rfl) (fun W=>?_) (fun _=>hS) ?_
     ·go_simp
     simp only [Act.put,sAZ,sBZ,sCZ]
     refine pure_upto (i:=1) (some 35) (ptr wb) rfl rfl (by kernel_rfl) (by kernel_rfl) (by kernel_rfl) (by decide) (fun _ _ _ h=>h) (by rfl) (fun W=>?_) (fun _=>hS) ?_
     ·go_simp
     simp only [Act.put,sAZ,sBZ,sCZ]
     refine pure_upto (i:=2) (some 36) (ptr wb) rfl rfl (by kernel_rfl) (by kernel_rfl) (by kernel_rfl) (by decide) (fun _ _ _ h=>h) (by rfl) (fun W=>?_) (fun _=>hS) ?_
     ·go_simp
     simp only [Act.put,sAZ,sBZ,sCZ]
     refine pure_upto (i:=3) (some 37) (ptr wb) rfl rfl (by kernel_rfl) (by kernel_rfl) (by kernel_rfl) (by decide) (fun _ _ _ h=>h) (by rfl) (fun W=>?_) (fun _=>hS) ?_
     ·go_simp
     simp only [Act.put,sAZ,sBZ,sCZ]
     refine pure_upto (i:=4) (some 38) (.pointer (some ⟨wb,5,none⟩)) rfl rfl (by kernel_rfl) (by kernel_rfl) (by kernel_rfl) (by decide) (fun _ _ _ h=>h) (by rfl) (fun W=>?_) (fun _=>hS) ?_
     ·go_simp
     simp only [Act.put,sAZ,sBZ,sCZ]
     refine take_upto (i:=5) (some 39) (.slice sa1 tn sc1) rfl rfl (by kernel_rfl) (by kernel_rfl) (by kernel_rfl) (by kernel_rfl) (by kernel_rfl) (by decide) (fun _ _ _ h=>h) (by rfl) (fun W hW=>?_) hS ?_
     ·have hx:=HX.out W hW
      clear hW
      go_simp
     simp only [Act.put,sAZ,sBZ,sCZ]
     refine pure_upto (i:=6) (some 40) (.int .i64 (m:Int)) rfl rfl (by kernel_rfl) (by kernel_rfl) (by kernel_rfl) (by decide) (fun _ _ _ h=>h) (by rfl) (fun W=>?_) (fun _=>hS) ?_
     ·go_simp
     simp only [Act.put,sAZ,sBZ,sCZ]
     refine pure_upto (i:=9) (some 43) (ptr wb) rfl rfl (by kernel_rfl) (by kernel_rfl) (by kernel_rfl) (by decide) (fun _ _ _ h=>h) (by rfl) (fun W=>?_) (fun _=>hS) ?_
     ·go_simp
     simp only [Act.put,sAZ,sBZ,sCZ]
     refine pure_upto (i:=10) (some 44) (ptr wb) rfl rfl (by kernel_rfl) (by kernel_rfl) (by kernel_rfl) (by decide) (fun _ _ _ h=>h) (by rfl) (fun W=>?_) (fun _=>hS) ?_
     ·go_simp
     simp only [Act.put,sAZ,sBZ,sCZ]
     refine pure_upto (i:=11) (some 45) (.pointer (some ⟨wb,6,none⟩)) rfl rfl (by kernel_rfl) (by kernel_rfl) (by kernel_rfl) (by decide) (fun _ _ _ h=>h) (by rfl) (fun W=>?_) (fun _=>hS) ?_
     ·go_simp
     simp only [Act.put,sAZ,sBZ,sCZ]
     refine take_upto (i:=12) (some 46) (.slice sa2 bn sc2) rfl rfl (by kernel_rfl) (by kernel_rfl) (by kernel_rfl) (by kernel_rfl) (by kernel_rfl) (by decide) (fun _ _ _ h=>h) (by rfl) (fun W hW=>?_) hS ?_
     ·have hx:=HX.out W hW
      clear hW
      go_simp
     simp only [Act.put,sAZ,sBZ,sCZ]
     refine pure_upto (i:=13) (some 47) (.slice sa sn sc) rfl rfl (by kernel_rfl) (by kernel_rfl) (by kernel_rfl) (by decide) (fun _ _ _ h=>h) (by rfl) (fun W=>?_) (fun _=>hS) ?_
     ·go_simp
     simp only [Act.put,sAZ,sBZ,sCZ]
     have hTb:(k.T++placeT l j).length≤1000000:=by have:=HH.out.2.2.2.1; rw [List.length_append,placeT_length]; omega
     have hBb:(k.BL++placeB ns j).length≤1000000:=by have:=HH.out.2.2.2.2.1; rw [List.length_append,placeB_length hj]; omega
     have HB:=Lib.hid (anZ hTb hBb)
     obtain ⟨W,hW⟩:∃ W,W=w4.drew:=⟨_,rfl⟩
     have p0:=P4.out.bel (below_drewN (Below.refl _ _) 1)
     have hdr:w4.drewN 1=w4.drew:=rfl
     rw [hdr, ← hW] at p0
     rw [← hW]
     rw [← hW] at hS
     have P0:=Lib.hid p0
     clear p0 hdr s1 s2 hTb hBb hW
     refine two_upto 7 14 (by kernel_rfl) rfl rfl (fun K hK=>?_) (fun K hK=>?_)
     ·go_simp
      have P1:=Lib.hid (P0.out.alloc (.cells #[.int .i64 (m:Int)] 3))
      refine hK.out _ _ (fun _=>⟨P1.out.x.cel.cell 5,P1.out.x.cel.cell 6⟩) ?_
      clear hK K P1
      refine two_upto 8 14 (by kernel_rfl) rfl rfl (fun K hK=>?_) (fun K hK=>?_)
      ·skip
       have R7:=Lib.hid (P0.out.litT m)
       have P1:=Lib.hid (P0.out.alloc (.cells #[.int .i64 (m:Int)] 3))
       obtain ⟨v1,W1,hrun1,p,st⟩:=P1.out.pushT R7.out HB.out.1
       obtain ⟨a1,c1,e1,_⟩:=p.x.rt.shape
       obtain ⟨n1,hn1⟩:∃ n1,n1=(ints ((k.T++placeT l j)++[m])).length:=⟨_,rfl⟩
       rw [← hn1] at e1
       subst e1
       have P2:=Lib.hid p
       clear p st hn1
       have R14:=Lib.hid (P2.out.litB)
       have P3:=Lib.hid (P2.out.alloc (.cells #[.slice sa sn sc] 24))
       obtain ⟨v2,W2,hrun2,p,st⟩:=P3.out.pushB R14.out HB.out.2
       obtain ⟨a2,c2,e2,_⟩:=p.x.rb.shape
       obtain ⟨n2,hn2⟩:∃ n2,n2=((k.BL++placeB ns j)++[sealL 3 (bodyL n.lvl n.ents)]).length:=⟨_,rfl⟩
       rw [← hn2] at e2
       subst e2
       have P4':=Lib.hid p
       clear p st hn2
       refine wp_append_run (.tmp 39) (.tmp 41) 40 rfl rfl rfl hrun1 ?_
       refine hK.out _ _ (fun _=>⟨P2.out.x.cel.cell 5,P2.out.x.cel.cell 6⟩) ?_
       clear hK K
       refine next_upto 14 (by kernel_rfl) rfl (fun K hK=>?_)
       go_simp
       refine hK.out _ _ (fun _=>⟨P3.out.x.cel.cell 5,P3.out.x.cel.cell 6⟩) ?_
       clear hK K
       refine next_upto 15 (by kernel_rfl) rfl (fun K hK=>?_)
       refine wp_append_run (.tmp 46) (.tmp 48) 69 rfl rfl rfl hrun2 ?_
       refine hK.out _ _ (fun _=>⟨P4'.out.x.cel.cell 5,P4'.out.x.cel.cell 6⟩) ?_
       clear hK K
       have hcw:∀ q,u4.ownBlock=some q→q≠wb:=fun q hq e=>by have:=H1.out.2.2.2.2.2.1 q hq; have:=HH.out.2.2.2.2.2.2.2.2; omega
       have s5:W2.cell? ⟨wb,5,none⟩=some (.slice sa1 tn sc1):=P4'.out.x.cel.cell 5
       have f5:W2.frozen? ⟨wb,5,none⟩=false:=P4'.out.x.cel.frozen 5
       have P5:=Lib.hid (P4'.out.setT hcw (.slice a1 n1 c1))
       have s6:(W2.setCell ⟨wb,5,none⟩ (.slice a1 n1 c1)).cell? ⟨wb,6,none⟩=some (.slice sa2 bn sc2):=P5.out.x.cel.cell 6
       have f6:(W2.setCell ⟨wb,5,none⟩ (.slice a1 n1 c1)).frozen? ⟨wb,6,none⟩=false:=P5.out.x.cel.frozen 6
       have P6:=Lib.hid (P5.out.setB hcw (.slice a2 n2 c2))
       clear hcw
       refine next_upto 16 (by kernel_rfl) rfl (fun K hK=>?_)
       go_simp
       refine hK.out _ _ (fun _=>⟨P4'.out.x.cel.cell 5,P4'.out.x.cel.cell 6⟩) ?_
       clear hK K
       refine next_upto 17 (by kernel_rfl) rfl (fun K hK=>?_)
       go_simp
       refine hK.out _ _ (fun _=>⟨P4'.out.x.cel.cell 5,P4'.out.x.cel.cell 6⟩) ?_
       clear hK K
       refine next_upto 18 (by kernel_rfl) rfl (fun K hK=>?_)
       go_simp
       refine hK.out _ _ (fun h=>Bool.noConfusion (show true=false from h)) ?_
       clear hK K
       refine next_upto 19 (by kernel_rfl) rfl (fun K hK=>?_)
       go_simp
       refine hK.out _ _ (fun h=>Bool.noConfusion (show true=false from h)) ?_
       clear hK K
       refine next_upto 20 (by kernel_rfl) rfl (fun K hK=>?_)
       go_simp
       refine hK.out _ _ (fun h=>Bool.noConfusion (show true=false from h)) ?_
       clear hK K
       refine next_upto 21 (by kernel_rfl) rfl (fun K hK=>?_)
       go_simp
       refine hK.out _ _ (fun h=>Bool.noConfusion (show true=false from h)) ?_
       clear hK K
       refine done_upto (by kernel_rfl) ?_ _
       go_wp2_with fail
       go_meet
       case rel=>exact ⟨_,_,_,P6.out⟩
      ·skip
       have R7:=Lib.hid (P0.out.litT m)
       have P1:=Lib.hid (P0.out.alloc (.cells #[.int .i64 (m:Int)] 3))
       have hsz:(W.alloc (.cells #[.int .i64 (m:Int)] 3)).heap.size=W.heap.size+1:=by simp
       have r:=(P1.out.litB)
       rw [hsz] at r
       have R14:=Lib.hid r
       clear r hsz
       have P2:=Lib.hid (P1.out.alloc (.cells #[.slice sa sn sc] 24))
       have R7b:=Lib.hid (R7.out.step ((Step.refl _ _).alloc (.cells #[.slice sa sn sc] 24)))
       obtain ⟨v1,W1,hrun1,p,st⟩:=P2.out.pushT R7b.out HB.out.1
       obtain ⟨a1,c1,e1,_⟩:=p.x.rt.shape
       obtain ⟨n1,hn1⟩:∃ n1,n1=(ints ((k.T++placeT l j)++[m])).length:=⟨_,rfl⟩
       rw [← hn1] at e1
       subst e1
       have P3:=Lib.hid p
       have R14b:=Lib.hid (R14.out.step st)
       clear p st hn1
       obtain ⟨v2,W2,hrun2,p,st⟩:=P3.out.pushB R14b.out HB.out.2
       obtain ⟨a2,c2,e2,_⟩:=p.x.rb.shape
       obtain ⟨n2,hn2⟩:∃ n2,n2=((k.BL++placeB ns j)++[sealL 3 (bodyL n.lvl n.ents)]).length:=⟨_,rfl⟩
       rw [← hn2] at e2
       subst e2
       have P4':=Lib.hid p
       clear p st hn2
       go_simp
       refine hK.out _ _ (fun _=>⟨P2.out.x.cel.cell 5,P2.out.x.cel.cell 6⟩) ?_
       clear hK K
       refine next_upto 8 (by kernel_rfl) rfl (fun K hK=>?_)
       refine wp_append_run (.tmp 39) (.tmp 41) 40 rfl rfl rfl hrun1 ?_
       refine hK.out _ _ (fun _=>⟨P3.out.x.cel.cell 5,P3.out.x.cel.cell 6⟩) ?_
       clear hK K
       refine next_upto 15 (by kernel_rfl) rfl (fun K hK=>?_)
       refine wp_append_run (.tmp 46) (.tmp 48) 69 rfl rfl rfl hrun2 ?_
       refine hK.out _ _ (fun _=>⟨P4'.out.x.cel.cell 5,P4'.out.x.cel.cell 6⟩) ?_
       clear hK K
       have hcw:∀ q,u4.ownBlock=some q→q≠wb:=fun q hq e=>by have:=H1.out.2.2.2.2.2.1 q hq; have:=HH.out.2.2.2.2.2.2.2.2; omega
       have s5:W2.cell? ⟨wb,5,none⟩=some (.slice sa1 tn sc1):=P4'.out.x.cel.cell 5
       have f5:W2.frozen? ⟨wb,5,none⟩=false:=P4'.out.x.cel.frozen 5
       have P5:=Lib.hid (P4'.out.setT hcw (.slice a1 n1 c1))
       have s6:(W2.setCell ⟨wb,5,none⟩ (.slice a1 n1 c1)).cell? ⟨wb,6,none⟩=some (.slice sa2 bn sc2):=P5.out.x.cel.cell 6
       have f6:(W2.setCell ⟨wb,5,none⟩ (.slice a1 n1 c1)).frozen? ⟨wb,6,none⟩=false:=P5.out.x.cel.frozen 6
       have P6:=Lib.hid (P5.out.setB hcw (.slice a2 n2 c2))
       clear hcw
       refine next_upto 16 (by kernel_rfl) rfl (fun K hK=>?_)
       go_simp
       refine hK.out _ _ (fun _=>⟨P4'.out.x.cel.cell 5,P4'.out.x.cel.cell 6⟩) ?_
       clear hK K
       refine next_upto 17 (by kernel_rfl) rfl (fun K hK=>?_)
       go_simp
       refine hK.out _ _ (fun _=>⟨P4'.out.x.cel.cell 5,P4'.out.x.cel.cell 6⟩) ?_
       clear hK K
       refine next_upto 18 (by kernel_rfl) rfl (fun K hK=>?_)
       go_simp
       refine hK.out _ _ (fun h=>Bool.noConfusion (show true=false from h)) ?_
       clear hK K
       refine next_upto 19 (by kernel_rfl) rfl (fun K hK=>?_)
       go_simp
       refine hK.out _ _ (fun h=>Bool.noConfusion (show true=false from h)) ?_
       clear hK K
       refine next_upto 20 (by kernel_rfl) rfl (fun K hK=>?_)
       go_simp
       refine hK.out _ _ (fun h=>Bool.noConfusion (show true=false from h)) ?_
       clear hK K
       refine next_upto 21 (by kernel_rfl) rfl (fun K hK=>?_)
       go_simp
       refine hK.out _ _ (fun h=>Bool.noConfusion (show true=false from h)) ?_
       clear hK K
       refine done_upto (by kernel_rfl) ?_ _
       go_wp2_with fail
       go_meet
       case rel=>exact ⟨_,_,_,P6.out⟩
     ·skip
      have R14:=Lib.hid (P0.out.litB)
      have P1:=Lib.hid (P0.out.alloc (.cells #[.slice sa sn sc] 24))
      have hsz:(W.alloc (.cells #[.slice sa sn sc] 24)).heap.size=W.heap.size+1:=by simp
      have r:=(P1.out.litT m)
      rw [hsz] at r
      have R7:=Lib.hid r
      clear r hsz
      have P2:=Lib.hid (P1.out.alloc (.cells #[.int .i64 (m:Int)] 3))
      have R14b:=Lib.hid (R14.out.step ((Step.refl _ _).alloc (.cells #[.int .i64 (m:Int)] 3)))
      obtain ⟨v1,W1,hrun1,p,st⟩:=P2.out.pushT R7.out HB.out.1
      obtain ⟨a1,c1,e1,_⟩:=p.x.rt.shape
      obtain ⟨n1,hn1⟩:∃ n1,n1=(ints ((k.T++placeT l j)++[m])).length:=⟨_,rfl⟩
      rw [← hn1] at e1
      subst e1
      have P3:=Lib.hid p
      have R14bb:=Lib.hid (R14b.out.step st)
      clear p st hn1
      obtain ⟨v2,W2,hrun2,p,st⟩:=P3.out.pushB R14bb.out HB.out.2
      obtain ⟨a2,c2,e2,_⟩:=p.x.rb.shape
      obtain ⟨n2,hn2⟩:∃ n2,n2=((k.BL++placeB ns j)++[sealL 3 (bodyL n.lvl n.ents)]).length:=⟨_,rfl⟩
      rw [← hn2] at e2
      subst e2
      have P4':=Lib.hid p
      clear p st hn2
      go_simp
      refine hK.out _ _ (fun _=>⟨P1.out.x.cel.cell 5,P1.out.x.cel.cell 6⟩) ?_
      clear hK K
      refine next_upto 7 (by kernel_rfl) rfl (fun K hK=>?_)
      go_simp
      refine hK.out _ _ (fun _=>⟨P2.out.x.cel.cell 5,P2.out.x.cel.cell 6⟩) ?_
      clear hK K
      refine next_upto 8 (by kernel_rfl) rfl (fun K hK=>?_)
      refine wp_append_run (.tmp 39) (.tmp 41) 40 rfl rfl rfl hrun1 ?_
      refine hK.out _ _ (fun _=>⟨P3.out.x.cel.cell 5,P3.out.x.cel.cell 6⟩) ?_
      clear hK K
      refine next_upto 15 (by kernel_rfl) rfl (fun K hK=>?_)
      refine wp_append_run (.tmp 46) (.tmp 48) 69 rfl rfl rfl hrun2 ?_
      refine hK.out _ _ (fun _=>⟨P4'.out.x.cel.cell 5,P4'.out.x.cel.cell 6⟩) ?_
      clear hK K
      have hcw:∀ q,u4.ownBlock=some q→q≠wb:=fun q hq e=>by have:=H1.out.2.2.2.2.2.1 q hq; have:=HH.out.2.2.2.2.2.2.2.2; omega
      have s5:W2.cell? ⟨wb,5,none⟩=some (.slice sa1 tn sc1):=P4'.out.x.cel.cell 5
      have f5:W2.frozen? ⟨wb,5,none⟩=false:=P4'.out.x.cel.frozen 5
      have P5:=Lib.hid (P4'.out.setT hcw (.slice a1 n1 c1))
      have s6:(W2.setCell ⟨wb,5,none⟩ (.slice a1 n1 c1)).cell? ⟨wb,6,none⟩=some (.slice sa2 bn sc2):=P5.out.x.cel.cell 6
      have f6:(W2.setCell ⟨wb,5,none⟩ (.slice a1 n1 c1)).frozen? ⟨wb,6,none⟩=false:=P5.out.x.cel.frozen 6
      have P6:=Lib.hid (P5.out.setB hcw (.slice a2 n2 c2))
      clear hcw
      refine next_upto 16 (by kernel_rfl) rfl (fun K hK=>?_)
      go_simp
      refine hK.out _ _ (fun _=>⟨P4'.out.x.cel.cell 5,P4'.out.x.cel.cell 6⟩) ?_
      clear hK K
      refine next_upto 17 (by kernel_rfl) rfl (fun K hK=>?_)
      go_simp
      refine hK.out _ _ (fun _=>⟨P4'.out.x.cel.cell 5,P4'.out.x.cel.cell 6⟩) ?_
      clear hK K
      refine next_upto 18 (by kernel_rfl) rfl (fun K hK=>?_)
      go_simp
      refine hK.out _ _ (fun h=>Bool.noConfusion (show true=false from h)) ?_
      clear hK K
      refine next_upto 19 (by kernel_rfl) rfl (fun K hK=>?_)
      go_simp
      refine hK.out _ _ (fun h=>Bool.noConfusion (show true=false from h)) ?_
      clear hK K
      refine next_upto 20 (by kernel_rfl) rfl (fun K hK=>?_)
      go_simp
      refine hK.out _ _ (fun h=>Bool.noConfusion (show true=false from h)) ?_
      clear hK K
      refine next_upto 21 (by kernel_rfl) rfl (fun K hK=>?_)
      go_simp
      refine hK.out _ _ (fun h=>Bool.noConfusion (show true=false from h)) ?_
      clear hK K
      refine done_upto (by kernel_rfl) ?_ _
      go_wp2_with fail
      go_meet
      case rel=>exact ⟨_,_,_,P6.out⟩
    case rest =>
     obtain ⟨S2,tv2,bv2,p⟩:=hcut
     have q0:wc.cell? ⟨wr.heap.size,0,none⟩=some (.int .i64 n.page):=p.cn.cell 0
     have q1:wc.cell? ⟨wr.heap.size,1,none⟩=some (.int .i64 (n.lvl:Nat)):=p.cn.cell 1
     have q2:wc.cell? ⟨wr.heap.size,2,none⟩=some (.slice ea n.ents.length ec):=p.cn.cell 2
     have q3:wc.cell? ⟨wr.heap.size,3,none⟩=some (.slice ta n.to.length tc):=p.cn.cell 3
     obtain ⟨a,ha⟩:∃ a,n.ents[0]? = some a:=by
      cases he:n.ents with
      | nil=>exact absurd he H1.out.2.2.2.2.2.2.2.2.2.2.2.2.1
      | cons a r=>exact ⟨a,rfl⟩
     have hk:hkey n=a.key:=by unfold hkey; rw [ha]
     have A:=least_any (p:=n.page) (l:=(n.lvl:Int)) (tv:=.slice ta n.to.length tc) wc p.ne ha
     have P7:=Lib.hid p
     have HK:=Lib.hid hk
     clear p hk ha
     go_wp2_with fail
     refine A.mono ?_
     rintro e w5 ⟨kv,rfl,hkb,hb5⟩
     clear A q0 q1 q2 q3
     obtain ⟨ka,kc,rfl,_⟩:=hkb.1.shape
     obtain ⟨kn,hkn⟩:∃ kn,kn=a.key.length:=⟨_,rfl⟩
     rw [← hkn] at hkb
     rw [← hkn]
     have p8:=P7.out.bel hb5
     have hro:=(p8.alloc (.cells #[.slice ka kn kc, .slice none 0 0, .int .i64 (m:Int)] 197)).ro
     have hlit:Rd kdEn (w5.alloc (.cells #[.slice ka kn kc, .slice none 0 0, .int .i64 (m:Int)] 197)) S2 (.slice (some ⟨w5.heap.size,0,none⟩) 1 1) [⟨a.key,[],m⟩] :=
      rd_lit kdEn w5 197 S2 p8.x.tr.lt [⟨⟨ka,kn,kc⟩,⟨none,0,0⟩,⟨a.key,[],m⟩⟩] _ rfl (fun t ht=>by rw [List.mem_singleton] at ht; subst ht; exact ⟨hkb,Bsf.nil _ _⟩) (by simp) rfl
     have hlen:(placeE l ns j).length+[(⟨a.key,[],m⟩:En)].length≤4294967296:=by rw [placeE_length]; simp; omega
     have P8:=Lib.hid p8
     clear p8 hkb hb5 hkn
     go_wp2_with (at_builtin; refine wpList_append_ro ent_ty rfl _ _ rfl rfl rfl hro hlit hlen ?_; intro v' w6 ro6 st6 gr6 lo6)
     obtain ⟨h1,ro1,nd1,st1,in1,new1,tc1,bc1,hre,hbt,hn,hfree,_⟩:=H1.out
     have p8:=P8.out.alloc (.cells #[.slice ka kn kc, .slice none 0 0, .int .i64 (m:Int)] 197)
     have hs6:=p8.x.at.other (cv:=u4) (w':=w6) (v':=v') (fun q hq=>by
      have hq1:=new1 q hq
      refine ⟨fun hf=>?_,fun hg=>?_,fun e=>?_,fun ht=>p8.tc q ht hq,fun hb=>p8.bc q hb hq,fun hx=>?_⟩
      ·have:=HF.out.1 q hf; omega
      ·have:=HH.out.2.2.2.2.2.2.2.1 q hg; omega
      ·have:=HH.out.2.2.2.2.2.2.2.2; omega
      ·have:=HF.out.2 q hx; omega) gr6 st6 (fun q hq=>ro6.own hq)
     refine ⟨⟨j+1,by omega,by go_num,fun x hx=>?_,Sv S2 v',tv2,bv2,?_,?_,p8.nd.step st6,p8.stp.trans st6,fun q hq=>.inl (p8.inc q hq),fun q hq=>?_,fun q hq hc=>?_,fun q hq hc=>?_⟩,?_⟩
     ·rcases Nat.lt_or_ge x j with h | h
      ·exact hfree x h
      ·obtain rfl:x=j:=by omega
       rw [HL.out]
       exact fun h=>by cases h
     ·rw [placeT_succ,placeB_succ hn,EM.out, ← List.append_assoc, ← List.append_assoc]
      exact hs6
     ·rw [placeE_succ l hn,EM.out,HK.out]
      exact ro6
     ·rcases lo6 with h | h
      ·exact new1 q (h ▸ hq)
      ·rw [h] at hq
       cases hq
       exact p8.stp.size
     ·rcases lo6 with h | h
      ·exact p8.tc q hq (h ▸ hc)
      ·rw [h] at hc
       cases hc
       have:=p8.x.rt.own hq
       omega
     ·rcases lo6 with h | h
      ·exact p8.bc q hq (h ▸ hc)
      ·rw [h] at hc
       cases hc
       have:=p8.x.rb.own hq
       omega
     ·simp [intOf]
      omega
  ·obtain rfl:j=ns.length:=by omega
   have hil:¬ (ns.length:Int) < (ns.length:Int):=by omega
   have H1:=Lib.hid (anZ h1 (anZ ro1 (anZ nd1 (anZ st1 (anZ in1 (anZ new1 (anZ tc1 (anZ bc1 hfree))))))))
   clear h1 ro1 nd1 st1 in1 new1 tc1 bc1 hfree
   go_wp2
   go_ret2
   obtain ⟨h1,ro1,nd1,st1,in1,new1,tc1,bc1,hfree⟩:=H1.out
   have hF:=HF.out
   have hG:=HH.out.2.2.2.2.2.2.2.1
   have hW:=HH.out.2.2.2.2.2.2.2.2
   have hl0:=HH.out.2.2.2.2.2.1
   refine ⟨ns.length,fun q=>S1 q∧u4.ownBlock≠some q,tv1,bv1,hfree,?_,st1.weak (fun q hq=>hq.1),fun q hq=>⟨in1 q hq,fun e=>?_⟩, .inl ⟨rfl,_,rfl,ro1.rd (fun q hq=>hq.1) (fun q hq hq2=>hq2.2 hq)⟩⟩
   ·refine h1.shrink (fun q hq=>hq.1) (fun q hq=>⟨h1.tr.fs q hq,fun e=>?_⟩) (fun q hq=>⟨h1.tr.gs q hq,fun e=>?_⟩) ⟨h1.ws,fun e=>?_⟩ (fun q hq=>⟨h1.rt.inS hq,tc1 q hq⟩) (fun q hq=>⟨h1.rb.inS hq,bc1 q hq⟩) (fun q hq=>⟨h1.rx.inS hq,fun e=>?_⟩)
    ·have:=hF.1 q hq; have:=new1 q e; omega
    ·have:=hG q hq; have:=new1 q e; omega
    ·have:=new1 wb e; omega
    ·have:=hF.2 q hq; have:=new1 q e; omega
   ·have:=hl0 q hq; have:=new1 q e; omega
end Go.Proofs.YtgkofgifoiinkaaGreat
