/- Nodes filled with entries, each with as many as go into one: the walks of shareOne and filled; condition: the entries are such as a tree may hold. -/
import Derived.Test.YtgkofgifoiinkaaGreatN26
import Derived.Test.YtgkofgifoiinkaaGreatN13
import Derived.Deep.CutRange
import Derived.Deep.DeepCutAuto
namespace Go.Proofs.YtgkofgifoiinkaaGreat
open Go.RowKit
def Shares (w:World) (S:Nat→Prop) (g p1 p2:Nat) (ea:Option Addr) (k ec:Nat) (a b:List En) (e:Ending) (w':World):Prop :=
 e = .returned (.tuple #[])∧∃ v w1,Below w.heap.size w w1∧Rd kdEn w1 S v (a.drop k++b)∧w'=(w1.setCell ⟨g,p2+2,none⟩ v).setCell ⟨g,p1+2,none⟩ (.slice ea k ec)
set_option maxRecDepth 100000 in
set_option maxHeartbeats 4000000 in
theorem shareOne_any {w:World} {S:Nat→Prop} {g p1 p2 k ec bn ebc:Nat} {ea eb:Option Addr} {a b:List En} (c1:w.cell? ⟨g,p1+2,none⟩=some (.slice ea (k+1) ec)) (c2:w.cell? ⟨g,p2+2,none⟩=some (.slice eb bn ebc))
  (fz:∀ j,w.frozen? ⟨g,j,none⟩=false) (hp:p1≠p2) (ha:Rd kdEn w S (.slice ea (k+1) ec) a) (hb:Rd kdEn w S (.slice eb bn ebc) b) (hk:a.length=k+1) (hbn:bn=b.length) (hk1:k≤1000000) (hk2:bn≤1000000) (hS:∀ q,S q→q < w.heap.size) (hg:g < w.heap.size) :
  Calls Tryz.prog 172 #[.pointer (some ⟨g,p1,none⟩), .pointer (some ⟨g,p2,none⟩)] w (Shares w S g p1 p2 ea k ec a b):=by
 obtain ⟨_,_,hsh,hcap,_⟩:=ha.shape
 simp only [Value.slice.injEq] at hsh
 obtain ⟨-, -,rfl⟩:=hsh
 have hwr:IntKind.i64.wrap (k:Int)=(k:Int):=IntWalk.i64_in _ (by omega)
 have hi1:(k:Int)+1≤(ec:Int):=by omega
 have hi2:(k:Int)≤(ec:Int):=by omega
 have hi3:(0:Int)≤(k:Int):=by omega
 have hi4:¬ (k:Int) < 0:=by omega
 have hi5:¬ (k:Int)+1 < (k:Int):=by omega
 have hi6:(k:Int)≤(k:Int)+1:=by omega
 have HH:=Lib.hid (anZ c1 (anZ c2 (anZ fz (anZ hp (anZ ha (anZ hb (anZ hk (anZ hbn (anZ hS hg)))))))))
 clear fz hp ha hb hk hbn hS hg hcap
 go_enter Tryz.func172,Tryz.ntmps172
 go_wp2_with fail
 have HB:∀ W,Below w.heap.size w W→W.cell? ⟨g,p1+2,none⟩=some (.slice ea (k+1) ec)∧W.cell? ⟨g,p2+2,none⟩=some (.slice eb bn ebc):=fun W hb=>⟨(hb.cell (p:=⟨g,p1+2,none⟩) HH.out.2.2.2.2.2.2.2.2.2).trans HH.out.1,(hb.cell (p:=⟨g,p2+2,none⟩) HH.out.2.2.2.2.2.2.2.2.2).trans HH.out.2.1⟩
 obtain ⟨Sx,hSx⟩:∃ Sx:World→Prop,∀ W1,Sx W1↔Below w.heap.size w W1:=⟨_,fun _=>Iff.rfl⟩
 have HX:=Lib.hid (fun (W:World) (hW:Sx W)=>HB W ((hSx W).1 hW))
 have hD:=(hSx w.drew).2 (Below.refl _ _).drew
 have HS:=Lib.hid hSx
 clear HB hSx
 refine region_till 15 Sx (by kernel_rfl) hD (fun hS=>?_)
 refine tkZ (i:=0) 11 (.pointer (some ⟨g,p2,none⟩)) rfl rfl (by kernel_rfl) (fun _ _ _ h=>h) (by rfl) (fun W hW=>?_) hS ?_
 ·have hx:=HX.out W hW
  clear hW
  go_simp
 simp only [Act.put,sAZ,sBZ,sCZ]
 refine tkZ (i:=1) 12 (.pointer (some ⟨g,p1,none⟩)) rfl rfl (by kernel_rfl) (fun _ _ _ h=>h) (by rfl) (fun W hW=>?_) hS ?_
 ·have hx:=HX.out W hW
  clear hW
  go_simp
 simp only [Act.put,sAZ,sBZ,sCZ]
 refine tkZ (i:=2) 13 (.pointer (some ⟨g,p1,none⟩)) rfl rfl (by kernel_rfl) (fun _ _ _ h=>h) (by rfl) (fun W hW=>?_) hS ?_
 ·have hx:=HX.out W hW
  clear hW
  go_simp
 simp only [Act.put,sAZ,sBZ,sCZ]
 refine tkZ (i:=3) 14 (.pointer (some ⟨g,p1+2,none⟩)) rfl rfl (by kernel_rfl) (fun _ _ _ h=>h) (by rfl) (fun W hW=>?_) hS ?_
 ·have hx:=HX.out W hW
  clear hW
  go_simp
 simp only [Act.put,sAZ,sBZ,sCZ]
 refine tkZ (i:=4) 15 (.slice ea (k+1) ec) rfl rfl (by kernel_rfl) (fun _ _ _ h=>h) (by rfl) (fun W hW=>?_) hS ?_
 ·have hx:=HX.out W hW
  clear hW
  go_simp
 simp only [Act.put,sAZ,sBZ,sCZ]
 refine tkZ (i:=5) 16 (.int .i64 (k:Int)) rfl rfl (by kernel_rfl) (fun _ _ _ h=>h) (by rfl) (fun W hW=>?_) hS ?_
 ·have hx:=HX.out W hW
  clear hW
  go_simp
 simp only [Act.put,sAZ,sBZ,sCZ]
 refine tkZ (i:=6) 17 (.slice (if ec=k then ea else Option.map (fun x=>x.add (k*3)) ea) 1 (ec-k)) rfl rfl (by kernel_rfl) (fun _ _ _ h=>h) (by rfl) (fun W hW=>?_) hS ?_
 ·have hx:=HX.out W hW
  clear hW
  go_simp
 simp only [Act.put,sAZ,sBZ,sCZ]
 refine tkZ (i:=7) 18 (.pointer (some ⟨g,p2,none⟩)) rfl rfl (by kernel_rfl) (fun _ _ _ h=>h) (by rfl) (fun W hW=>?_) hS ?_
 ·have hx:=HX.out W hW
  clear hW
  go_simp
 simp only [Act.put,sAZ,sBZ,sCZ]
 refine tkZ (i:=8) 19 (.pointer (some ⟨g,p2,none⟩)) rfl rfl (by kernel_rfl) (fun _ _ _ h=>h) (by rfl) (fun W hW=>?_) hS ?_
 ·have hx:=HX.out W hW
  clear hW
  go_simp
 simp only [Act.put,sAZ,sBZ,sCZ]
 refine tkZ (i:=9) 20 (.pointer (some ⟨g,p2+2,none⟩)) rfl rfl (by kernel_rfl) (fun _ _ _ h=>h) (by rfl) (fun W hW=>?_) hS ?_
 ·have hx:=HX.out W hW
  clear hW
  go_simp
 simp only [Act.put,sAZ,sBZ,sCZ]
 refine tkZ (i:=10) 21 (.slice eb bn ebc) rfl rfl (by kernel_rfl) (fun _ _ _ h=>h) (by rfl) (fun W hW=>?_) hS ?_
 ·have hx:=HX.out W hW
  clear hW
  go_simp
 simp only [Act.put,sAZ,sBZ,sCZ]
 have h2:Rd kdEn w S (.slice (if ec=k then ea else Option.map (fun x=>x.add (k*3)) ea) 1 (ec-k)) (a.drop k):=by
  have h1:=HH.out.2.2.2.2.1.from k (by have:=HH.out.2.2.2.2.2.2.1; omega)
  rw [HH.out.2.2.2.2.2.2.1,show k+1-k=1 by omega] at h1
  exact h1
 obtain ⟨da,hda⟩:∃ da,da=(if ec=k then ea else Option.map (fun x=>x.add (k*3)) ea):=⟨_,rfl⟩
 rw [← hda] at h2
 rw [← hda]
 obtain ⟨W2,hW2⟩:∃ W2,W2=(w.alloc (.cells #[.slice da 1 (ec-k), .slice eb bn ebc] 177)).drew:=⟨_,rfl⟩
 have hb2:Below w.heap.size w W2:=by rw [hW2]; exact ((Below.refl _ _).alloc (Nat.le_refl _) _).drew
 have hlit:Rd kdEs W2 S (.slice (some ⟨w.heap.size,0,none⟩) 2 2) [a.drop k,b]:=by
  rw [hW2]
  exact (rd_lit kdEs w 177 S HH.out.2.2.2.2.2.2.2.2.1 [⟨⟨da,1,ec-k⟩,a.drop k⟩,⟨⟨eb,bn,ebc⟩,b⟩] _ rfl (fun t ht=>by
   rcases List.mem_cons.1 ht with rfl | ht
   ·exact h2
   ·rw [List.mem_singleton] at ht
    subst ht
    exact HH.out.2.2.2.2.2.1) (by simp) rfl).step (Step.refl S _).drew
 have hlenE:lenE ([a.drop k,b]:List (List En))≤2147483648:=by
  have e1:(a.drop k).length≤1:=by rw [List.length_drop]; have:=HH.out.2.2.2.2.2.2.1; omega
  have e2:=HH.out.2.2.2.2.2.2.2.1
  unfold lenE
  simp only [List.map_cons,List.map_nil,List.sum_cons,List.sum_nil]
  omega
 have A:=concat_any _ hlit (fun q hq=>Nat.lt_of_lt_of_le (HH.out.2.2.2.2.2.2.2.2.1 q hq) hb2.size) (by simp) hlenE
 have hflat:([a.drop k,b]:List (List En)).flatten=a.drop k++b:=by simp
 rw [hflat] at A
 have hS2:=(HS.out W2).2 hb2
 have H2:=Lib.hid (anZ hb2 hW2)
 clear h2 hda hlit hlenE hflat hb2 hW2 hS hD c1 c2
 refine next_till 11 (by kernel_rfl) rfl (fun K hK=>?_)
 go_simp
 rw [← H2.out.2]
 refine hK.out _ _ (fun _=>hS2) ?_
 clear hK K
 refine next_till 12 (by kernel_rfl) rfl (fun K hK=>?_)
 go_simp
 refine A.mono ?_
 rintro e w1 ⟨v,rfl,hv,hb1,_⟩
 have hbw:Below w.heap.size w w1:=H2.out.1.trans (hb1.mono H2.out.1.size)
 have hS3:=(HS.out w1).2 hbw
 refine hK.out _ _ (fun _=>hS3) ?_
 clear hK K A hS2
 have hg:=HH.out.2.2.2.2.2.2.2.2.2
 obtain ⟨va,vc,rfl,_⟩:=hv.shape
 obtain ⟨vn,hvn⟩:∃ vn,vn=(a.drop k++b).length:=⟨_,rfl⟩
 rw [← hvn]
 rw [← hvn] at hv
 have f1:w1.frozen? ⟨g,p1+2,none⟩=false:=by
  have e:=hbw.block g hg
  have:=HH.out.2.2.1 (p1+2)
  simp only [World.frozen?] at this ⊢
  rw [e]
  exact this
 have f2:w1.frozen? ⟨g,p2+2,none⟩=false:=by
  have e:=hbw.block g hg
  have:=HH.out.2.2.1 (p2+2)
  simp only [World.frozen?] at this ⊢
  rw [e]
  exact this
 have c1:w1.cell? ⟨g,p1+2,none⟩=some (.slice ea (k+1) ec):=(hbw.cell (p:=⟨g,p1+2,none⟩) hg).trans HH.out.1
 have c2:w1.cell? ⟨g,p2+2,none⟩=some (.slice eb bn ebc):=(hbw.cell (p:=⟨g,p2+2,none⟩) hg).trans HH.out.2.1
 have hne:¬ p2+2=p1+2:=fun e=>HH.out.2.2.2.1 (by omega)
 have hne2:¬ p2=p1:=fun e=>HH.out.2.2.2.1 e.symm
 have H3:=Lib.hid (anZ hbw hv)
 clear hbw hv hb1 hvn hg
 refine next_till 13 (by kernel_rfl) rfl (fun K hK=>?_)
 go_simp
 refine hK.out _ _ (fun _=>hS3) ?_
 clear hK K
 refine next_till 14 (by kernel_rfl) rfl (fun K hK=>?_)
 go_simp
 refine hK.out _ _ (fun _=>hS3) ?_
 clear hK K
 refine next_till 15 (by kernel_rfl) rfl (fun K hK=>?_)
 go_simp
 refine hK.out _ _ (fun h=>absurd rfl h) ?_
 clear hK K
 refine done_till (by kernel_rfl) ?_ _
 have hg:=HH.out.2.2.2.2.2.2.2.2.2
 have g1:(w1.setCell ⟨g,p2+2,none⟩ (.slice va vn vc)).cell? ⟨g,p1+2,none⟩=some (.slice ea (k+1) ec):=by
  have hab:(⟨g,p2+2,none⟩:Addr)≠⟨g,p1+2,none⟩:=fun e=>hne (congrArg Addr.off e)
  exact Eq.trans (by apply World.cell?_setCell_other; exact hab) c1
 go_wp2
 exact bodyPost_end (results_none rfl _ _ _) rfl ⟨rfl, .slice va vn vc,w1,H3.out.1,H3.out.2,rfl⟩
theorem rows_len {Ls:List (List En)} (h:∀ L∈Ls,L≠[]):Ls.length≤Ls.flatten.length:=by
 induction Ls with
 | nil=>exact Nat.le_refl _
 | cons a r ih =>
  have h1:=List.length_pos_iff.2 (h a List.mem_cons_self)
  have h2:=ih fun L hL=>h L (List.mem_cons_of_mem _ hL)
  rw [List.length_cons,List.flatten_cons,List.length_append]
  omega
def usedL (lvl:Nat) (Ls:List (List En)):Nat:=(Ls.getLast?.map (nsize lvl)).getD 0
theorem usedL_snoc (lvl:Nat) (i:List (List En)) (a:List En):usedL lvl (i++[a])=nsize lvl a:=by simp [usedL]
set_option maxRecDepth 100000 in
set_option maxHeartbeats 8000000 in
theorem tfilled_any {w:World} {N lvl:Nat} {ev0:Value} {es:List En} {S0:Nat→Prop} (h:Rd kdEn w S0 ev0 es) (he:∀ e∈es,EOk N lvl e) (hS:∀ q,S0 q→q < w.heap.size) (hn:es.length≤100000) :
  Calls Tryz.prog 136 #[.int .i64 (lvl:Int),ev0] w fun e w'=>∃ v,e = .returned v∧Rd kdNd w' S0 v ((shareL lvl (fillL lvl es)).map (mkN lvl))∧Below w.heap.size w w':=by
 have hM:∀ e∈es,esize lvl e≤503:=fun e hh=>by
  have h1:=(he e hh).size
  have h2:maxE lvl≤164:=by unfold maxE; split <;> omega
  omega
 obtain ⟨ea,ec,rfl,_⟩:=h.shape
 obtain ⟨en,hen⟩:∃ en,en=es.length:=⟨_,rfl⟩
 rw [← hen]
 rw [← hen] at hn
 have HH:=Lib.hid (anZ h (anZ he (anZ hS (anZ hM hen))))
 clear h he hS hM hen
 go_enter Tryz.func136,Tryz.ntmps136
 go_wp2
 go_loopw [4,5,13] (fun lv us i wr=>∃ j:Nat,j≤en∧i = .int .i64 j∧us = .int .i64 (usedL lvl (fillL lvl (es.take j)):Nat)∧FillR w wr S0 (fun _=>False) lvl lv (fillL lvl (es.take j))) (fun _ _ i _=>en-(intOf i).toNat)
 case atStart=>exact ⟨0,Nat.zero_le _,rfl,rfl,Below.refl _ _, .inl ⟨rfl,rfl⟩⟩
 case round =>
  obtain ⟨j,hj,rfl,rfl,hR0⟩:=hrel
  have hR:=hR0.newx
  have HR0:=Lib.hid hR0
  clear hR0
  by_cases hlt:j < en
  ·obtain ⟨e,hee⟩:∃ e,es[j]? = some e:=⟨_,List.getElem?_eq_getElem (by have:=HH.out.2.2.2.2; omega)⟩
   obtain ⟨g0,o,cap0,ka,kc,va,vc,e0,hg0,d0,d1,d2,hka,hva⟩:=HH.out.1.ent hee
   have c0:=(hR.1.cell (p:=⟨g0,o+j*3,none⟩) hg0).trans d0
   have c1:=(hR.1.cell (p:=⟨g0,o+j*3+1,none⟩) hg0).trans d1
   have c2:=(hR.1.cell (p:=⟨g0,o+j*3+2,none⟩) hg0).trans d2
   have hkr:=hka.1.below (hR.1)
   have hvr:=hva.1.below (hR.1)
   clear d0 d1 d2
   simp only [Value.slice.injEq] at e0
   obtain ⟨rfl,_,rfl⟩:=e0
   have hil:(j:Int) < (en:Int):=by omega
   have hef:=HH.out.2.1 e (List.mem_of_getElem? hee)
   have hb1:Below wr.heap.size wr (wr.alloc (.cells #[.slice ka e.key.length kc, .slice va e.val.length vc, .int .i64 (e.page:Nat)] 197)):=(Below.refl _ _).alloc (Nat.le_refl _) _
   have CB:Cel (wr.alloc (.cells #[.slice ka e.key.length kc, .slice va e.val.length vc, .int .i64 (e.page:Nat)] 197)) wr.heap.size [.slice ka e.key.length kc, .slice va e.val.length vc, .int .i64 (e.page:Nat)] 197:=Cel.new wr _ _
   have Z:=esize_any (p:=(e.page:Int)) (lvl:=lvl) e _ (hkr.below hb1) (hvr.below hb1) hef.2.2.2.1 hef.2.2.2.2.1
   have hok:=fill_ok (lvl:=lvl) HH.out.2.2.2.1 j (by have:=HH.out.2.2.2.2; omega)
   have hlen:(fillL lvl (es.take j)).length≤1000000:=by
    have h1:=rows_len hok.ne
    rw [hok.flat,List.length_take] at h1
    omega
   have hul:usedL lvl (fillL lvl (es.take j))≤503:=by
    rcases snoc_cases (fillL lvl (es.take j)) with hh | ⟨i,a,hh⟩
    ·rw [hh]; simp [usedL]
    ·rw [hh,usedL_snoc]
     exact hok.fit a (by rw [hh]; simp)
   have hez:=HH.out.2.2.2.1 e (List.mem_of_getElem? hee)
   have hstep:=fill_take lvl es hee
   obtain ⟨Ls,hLs⟩:∃ Ls,Ls=fillL lvl (es.take j):=⟨_,rfl⟩
   rw [← hLs] at hR hlen hul hstep
   rw [← hLs]
   obtain ⟨kn,hkn⟩:∃ kn,kn=e.key.length:=⟨_,rfl⟩
   obtain ⟨vn,hvn⟩:∃ vn,vn=e.val.length:=⟨_,rfl⟩
   obtain ⟨ez,hezz⟩:∃ ez,ez=esize lvl e:=⟨_,rfl⟩
   rw [← hkn] at c0 hka CB Z hb1
   rw [← hvn] at c1 hva CB Z hb1
   rw [← hezz] at Z hez
   have H1:=Lib.hid (anZ hR (anZ hee (anZ hstep (anZ hlen (anZ hul (anZ hez (anZ CB (anZ hb1 (anZ hka (anZ hva hezz))))))))))
   clear hR hee hstep hok hlen hul hez hef CB hb1 hka hva hezz hkr hvr hkn hvn hg0 hLs
   generalize hus:usedL lvl Ls=us at *
   go_wp2_with fail
   refine Z.mono ?_
   rintro e' w2 ⟨rfl,hb2⟩
   clear Z c0 c1 c2
   have hR2:=(H1.out.1.below H1.out.2.2.2.2.2.2.2.1).below hb2
   have CB2:=H1.out.2.2.2.2.2.2.1.below hb2 H1.out.2.2.2.2.2.2.1.lt
   obtain ⟨la,lc,rfl⟩:=hR2.shape
   obtain ⟨ln,hln⟩:∃ ln,ln=Ls.length:=⟨_,rfl⟩
   have hln0:=H1.out.2.2.2.1
   have hul0:=H1.out.2.2.2.2.1
   have hez0:=H1.out.2.2.2.2.2.1
   rw [← hln] at hR2 hln0
   rw [← hln]
   have hwr:IntKind.i64.wrap ((us:Int)+(ez:Int))=(us:Int)+(ez:Int):=IntWalk.i64_in _ (by omega)
   obtain ⟨pb,hpb⟩:∃ pb,pb=decide (ln=0∨503 < us+ez):=⟨_,rfl⟩
   have H2:=Lib.hid (anZ hR2 (anZ CB2 (anZ hln (anZ hpb (anZ hus hb2)))))
   clear hR2 CB2 hln hus hb2
   go_upto_region 6 with fail
   go_cut [28] from 14 to 52 (fun t28 wx=>t28 = .bool pb∧wx=w2)
   case first =>
    by_cases h0:ln=0
    ·have hp:pb=true:=by rw [hpb]; simp [h0]
     have HP:=Lib.hid hp
     clear hpb hp
     subst h0
     go_wp2_with fail
     go_meet
     case rel=>exact ⟨by rw [HP.out],by trivial⟩
    ·have h0b:((ln:Int) == 0)=false:=by rw [beq_eq_false_iff_ne]; omega
     by_cases h5:503 < us+ez
     ·have hp:pb=true:=by rw [hpb]; simp [h5]
      have h5i:(503:Int) < (us:Int)+(ez:Int):=by omega
      have HP:=Lib.hid hp
      clear hpb hp
      go_wp2_with fail
      go_meet
      case rel=>exact ⟨by rw [HP.out],by trivial⟩
     ·have hp:pb=false:=by rw [hpb]; simp [h5,h0]
      have h5i:¬ (503:Int) < (us:Int)+(ez:Int):=by omega
      have HP:=Lib.hid hp
      clear hpb hp
      go_wp2_with fail
      go_meet
      case rel=>exact ⟨by rw [HP.out],by trivial⟩
   case rest =>
    obtain ⟨rfl,rfl⟩:=hcut
    generalize wc=w2 at *
    clear hpb
    go_upto_if 28 with fail
    go_cut [4,5] from 14 to 52 (fun t4 t5 wx=>∃ (S:Nat→Prop) (i:List (List En)) (a:List En) (ts:List NT) (g cap:Nat) (cur:Array Value) (ev:Value),t4 = .slice (some ⟨g,0,none⟩) (i.length+1) cap∧t5 = .int .i64 (nsize lvl a:Nat) ∧
     FlAt w wx S0 S lvl i a ts g cap cur ev∧¬ S wr.heap.size∧Below w.heap.size w wx∧Cel wx wr.heap.size [.slice ka kn kc, .slice va vn vc, .int .i64 (e.page:Nat)] 197∧fillStep lvl Ls e=i++[a++[e]]∧i.length≤1000000∧a.length≤1000000∧nsize lvl a≤503)
    case first =>
     cases pb with
     | false =>
      go_wp2_with fail
      go_meet
      case rel =>
       obtain ⟨hR2,CB2,hln,hpb',hus,hb2⟩:=H2.out
       have hpb:=of_decide_eq_false hpb'.symm
       rcases hR2.2 with ⟨h1,_⟩ | ⟨S,i,a,ts,g,cap,cur,ev,h1,h2,h3,hx3⟩
       ·rw [h1] at hln
        exact absurd (.inl hln) hpb
       ·simp only [Value.slice.injEq] at h2
        obtain ⟨rfl,h2,rfl⟩:=h2
        have hez:=H1.out.2.2.2.2.2.2.2.2.2.2
        have hlen:=H1.out.2.2.2.1
        subst h1
        rw [usedL_snoc] at hus
        have hul:=H1.out.2.2.2.2.1
        refine ⟨S,i,a,ts,g,lc,cur,ev,by rw [h2],by rw [hus],h3,hx3 _ rfl,hR2.1,CB2,?_,by rw [List.length_append,List.length_singleton] at hlen; omega,?_,by omega⟩
        ·rw [fill_snoc,if_neg]
         intro hgt
         exact hpb (.inr (by rw [← hus,hez]; exact hgt))
        ·have:=length_le_nsize lvl a
         omega
     | true =>
      have hb3:Below w2.heap.size w2 (w2.alloc (.cells #[.int .i64 0, .int .i64 (lvl:Int), .slice none 0 0, .slice none 0 0] 179)):=(Below.refl _ _).alloc (Nat.le_refl _) _
      have CN:=Cel.new w2 #[.int .i64 0, .int .i64 (lvl:Int), .slice none 0 0, .slice none 0 0] 179
      obtain ⟨v',w',hrun,hR',hb',hsm,hsz⟩:=fill_push (H2.out.1.below hb3) HH.out.2.2.1 (fun q hq=>by
       subst hq
       refine ⟨by have:=H2.out.2.1.lt; simp; omega,fun hs=>?_⟩
       have h6:=HH.out.2.2.1 _ hs
       have h7:=HR0.out.1.size
       omega) H1.out.2.2.2.1 (xb:=w2.heap.size) (fun j u hu=>(CN.cell j).trans hu)
      have CB':=(H2.out.2.1.below hb3 H2.out.2.1.lt).kept (hsm _ (by have:=H2.out.2.1.lt; simp; omega) (fun e'=>by
       rcases H2.out.1.2 with ⟨_,h2⟩ | ⟨S,i,a,ts,g,cap,cur,ev,h1,h2,h3,_⟩
       ·rw [h2] at e'
        cases e'
       ·rw [h2] at e'
        have e2:g=wr.heap.size:=by simpa [Value.ownBlock] using e'
        have h4:=h3.blk
        have h5:w2.heap[wr.heap.size]? = _:=H2.out.2.1
        rw [e2,h5] at h4
        simp at h4))
      have H3:=Lib.hid (anZ hR' (anZ hb' CB'))
      clear hb3 CN hR' hb' hsm hsz CB'
      go_wp2_with (at_builtin; refine twpList_append_run rfl _ _ rfl rfl rfl hrun ?_)
      go_meet
      case rel =>
       obtain ⟨hR',hb',CB'⟩:=H3.out
       rcases hR'.2 with ⟨h1,_⟩ | ⟨S,i,a,ts,g,cap,cur,ev,h1,h2,h3,hx3⟩
       ·simp at h1
       ·obtain ⟨e1,e2⟩:=List.append_inj' h1 rfl
        have e3:a=[]:=by simpa using e2.symm
        subst e1 e3
        refine ⟨S,Ls,[],ts,g,cap,cur,ev,h2,by rw [nsize_nil]; rfl,h3,hx3 _ rfl,hb',CB',?_,H1.out.2.2.2.1 |> fun h=>by have:=H2.out.2.2.1; omega,by simp,by rw [nsize_nil]; omega⟩
        have hpb:=of_decide_eq_true H2.out.2.2.2.1.symm
        have hln:=H2.out.2.2.1
        rcases snoc_cases Ls with rfl | ⟨i,a,rfl⟩
        ·rfl
        ·have hus:=H2.out.2.2.2.2.1
         rw [usedL_snoc] at hus
         rw [fill_snoc,if_pos]
         ·simp
         ·rcases hpb with h | h
          ·rw [h] at hln
           simp at hln
          ·rw [hus, ← H1.out.2.2.2.2.2.2.2.2.2.2]
           exact h
    case rest =>
     obtain ⟨S,i,a,ts,g,cap,cur,ev,rfl,rfl,hF,hxF,hbF,CB3,hfs,hil,hal,hns⟩:=hcut
     clear H2
     obtain ⟨il,hil'⟩:∃ il,il=i.length:=⟨_,rfl⟩
     rw [← hil']
     rw [← hil'] at hil
     have hw1:IntKind.i64.wrap (il:Int)=(il:Int):=IntWalk.i64_in _ (by omega)
     have hw2:IntKind.i64.wrap ((nsize lvl a:Nat)+(ez:Int))=((nsize lvl a:Nat):Int)+(ez:Int):=IntWalk.i64_in _ (by have:=H1.out.2.2.2.2.2.1; omega)
     have hi1:(il:Int) < (il:Int)+1:=by omega
     have hi2:(0:Int)≤(il:Int):=by omega
     have hi3:¬ (il:Int) < 0:=by omega
     obtain ⟨eva,evc,rfl,_⟩:=hF.row.shape
     obtain ⟨an,han⟩:∃ an,an=a.length:=⟨_,rfl⟩
     have cev:∀ j u,(lastC lvl (.slice eva an evc))[j]? = some u→wc.cell? ⟨g,il*4+j,none⟩=some u:=fun j u hu=>by rw [hil']; exact hF.last (by rw [← han]; exact hu)
     have ce2:=cev 2 _ rfl
     have fz:wc.frozen? ⟨g,il*4+2,none⟩=false:=hF.froz _
     obtain ⟨ns,hns'⟩:∃ ns,ns=nsize lvl a:=⟨_,rfl⟩
     rw [← hns'] at hw2
     rw [← hns']
     have hlit:Rd kdEn (wc.alloc (.cells #[.slice ka kn kc, .slice va vn vc, .int .i64 (e.page:Nat)] 197)) S (.slice (some ⟨wc.heap.size,0,none⟩) 1 1) [e]:=by
      have hst:Step S0 w wc S:=⟨Only.of_below hbF S0,hF.more⟩
      exact rd_lit kdEn wc 197 S hF.lt [⟨⟨ka,kn,kc⟩,⟨va,vn,vc⟩,e⟩] _ rfl (fun t ht=>by
       rw [List.mem_singleton] at ht
       subst ht
       exact ⟨H1.out.2.2.2.2.2.2.2.2.1.step hst,H1.out.2.2.2.2.2.2.2.2.2.1.step hst⟩) (by simp) rfl
     obtain ⟨W2,hW2⟩:∃ W2,W2=(wc.alloc (.cells #[.slice ka kn kc, .slice va vn vc, .int .i64 (e.page:Nat)] 197)).drew:=⟨_,rfl⟩
     have hb2:Below wc.heap.size wc W2:=by rw [hW2]; exact ((Below.refl _ _).alloc (Nat.le_refl _) _).drew
     have hFa:=hF.below hb2
     have hlit2:Rd kdEn W2 S (.slice (some ⟨wc.heap.size,0,none⟩) 1 1) [e]:=by rw [hW2]; exact hlit.step (Step.refl S _).drew
     obtain ⟨v',w',hrun,ro6,st6,gr6,lo6⟩:=run_append_ro ent_ty 177 hFa.row hlit2 (by rw [List.length_singleton]; omega)
     obtain ⟨cur',hF',hbF'⟩:=hFa.put ro6 st6 gr6 lo6 (hbF.trans (hb2.mono hbF.size))
     rw [← hil'] at hF' hbF'
     rw [← han] at hrun gr6
     have hgl:g < W2.heap.size:=hFa.lt g hFa.gS
     have hgn:(Value.slice eva an evc).ownBlock≠some g:=by rw [han]; exact hFa.ne
     have hbn:(Value.slice eva an evc).ownBlock≠some wr.heap.size:=fun e=>hxF (hF.row.inS (by rw [← han]; exact e))
     have CBa:=CB3.below hb2 CB3.lt
     have CBb:=CBa.kept (gr6.block _ CBa.lt (fun e=>hbn e.symm))
     have gev:w'.cell? ⟨g,il*4+2,none⟩=some (.slice eva an evc):=(World.cell?_of_block (gr6.block g hgl fun e=>hgn e.symm)).trans ((hb2.cell (p:=⟨g,il*4+2,none⟩) (hF.lt g hF.gS)).trans ce2)
     have gfz:w'.frozen? ⟨g,il*4+2,none⟩=false:=by
      have:=gr6.block g hgl (fun e=>hgn e.symm)
      have h9:=hFa.froz (il*4+2)
      simp only [World.frozen?] at h9 ⊢
      rw [this]
      exact h9
     obtain ⟨Sx,hSx⟩:∃ Sx:World→Prop,∀ W,Sx W↔(W.cell? ⟨g,il*4+2,none⟩=some (.slice eva an evc)∧Cel W wr.heap.size [.slice ka kn kc, .slice va vn vc, .int .i64 (e.page:Nat)] 197):=⟨_,fun _=>Iff.rfl⟩
     have hD:Sx wc.drew:=(hSx _).2 ⟨ce2,CB3⟩
     have hS2:Sx W2:=(hSx _).2 ⟨(hb2.cell (p:=⟨g,il*4+2,none⟩) (hF.lt g hF.gS)).trans ce2,CBa⟩
     have hS3:Sx w':=(hSx _).2 ⟨gev,CBb⟩
     have HX:=Lib.hid (fun (W:World) (hW:Sx W)=>anZ ((hSx W).1 hW).1 (anZ (((hSx W).1 hW).2.cell 0) (anZ (((hSx W).1 hW).2.cell 1) (((hSx W).1 hW).2.cell 2))))
     obtain ⟨va',vc',hv',_⟩:=ro6.shape
     have H3:=Lib.hid (anZ hF' (anZ hbF' (anZ hfs (anZ hns' (anZ hil' hW2)))))
     clear hF hxF hbF CB3 hfs hns' han cev ce2 fz hlit hFa hlit2 ro6 st6 gr6 lo6 hF' hbF' hgl hgn hbn CBa CBb hSx hb2 hil' hW2
     go_wp2_with fail
     refine region_till 10 Sx (by kernel_rfl) hD (fun hS=>?_)
     refine tkZ (i:=0) 39 (.pointer (some ⟨g,il*4,none⟩)) rfl rfl (by kernel_rfl) (fun _ _ _ h=>h) (by rfl) (fun W hW=>?_) hS ?_
     ·have hx:=HX.out W hW
      clear hW
      go_simp
     simp only [Act.put,sAZ,sBZ,sCZ]
     refine tkZ (i:=1) 40 (.pointer (some ⟨g,il*4,none⟩)) rfl rfl (by kernel_rfl) (fun _ _ _ h=>h) (by rfl) (fun W hW=>?_) hS ?_
     ·have hx:=HX.out W hW
      clear hW
      go_simp
     simp only [Act.put,sAZ,sBZ,sCZ]
     refine tkZ (i:=2) 41 (.pointer (some ⟨g,il*4,none⟩)) rfl rfl (by kernel_rfl) (fun _ _ _ h=>h) (by rfl) (fun W hW=>?_) hS ?_
     ·have hx:=HX.out W hW
      clear hW
      go_simp
     simp only [Act.put,sAZ,sBZ,sCZ]
     refine tkZ (i:=3) 42 (.pointer (some ⟨g,il*4+2,none⟩)) rfl rfl (by kernel_rfl) (fun _ _ _ h=>h) (by rfl) (fun W hW=>?_) hS ?_
     ·have hx:=HX.out W hW
      clear hW
      go_simp
     simp only [Act.put,sAZ,sBZ,sCZ]
     refine tkZ (i:=4) 43 (.slice eva an evc) rfl rfl (by kernel_rfl) (fun _ _ _ h=>h) (by rfl) (fun W hW=>?_) hS ?_
     ·have hx:=HX.out W hW
      clear hW
      go_simp
     simp only [Act.put,sAZ,sBZ,sCZ]
     refine tkZ (i:=5) 44 (.agg #[.slice ka kn kc, .slice va vn vc, .int .i64 (e.page:Nat)]) rfl rfl (by kernel_rfl) (fun _ _ _ h=>h) (by rfl) (fun W hW=>?_) hS ?_
     ·have hx:=HX.out W hW
      clear hW
      go_simp
     simp only [Act.put,sAZ,sBZ,sCZ]
     refine next_till 6 (by kernel_rfl) rfl (fun K hK=>?_)
     go_simp
     rw [← H3.out.2.2.2.2.2]
     refine hK.out _ _ (fun _=>hS2) ?_
     clear hK K
     refine next_till 7 (by kernel_rfl) rfl (fun K hK=>?_)
     refine wp_append_run (.tmp 43) (.tmp 45) 177 rfl rfl rfl hrun ?_
     refine hK.out _ _ (fun _=>hS3) ?_
     clear hK K
     subst hv'
     refine next_till 8 (by kernel_rfl) rfl (fun K hK=>?_)
     go_simp
     refine hK.out _ _ (fun _=>hS3) ?_
     clear hK K
     refine next_till 9 (by kernel_rfl) rfl (fun K hK=>?_)
     go_simp
     refine hK.out _ _ (fun _=>hS3) ?_
     clear hK K
     refine next_till 10 (by kernel_rfl) rfl (fun K hK=>?_)
     go_simp
     refine hK.out _ _ (fun h=>absurd rfl h) ?_
     clear hK K
     refine done_till (by kernel_rfl) ?_ _
     clear hS hS2 hS3 gev gfz hrun
     go_wp2
     obtain ⟨hF',hbF',hfs,hns',hil',hW2⟩:=H3.out
     rw [List.length_append,List.length_singleton] at hF' hbF'
     have hstep:=H1.out.2.2.1
     rw [hfs] at hstep
     refine ⟨⟨j+1,by omega,by go_num,?_,?_⟩,?_⟩
     ·rw [hstep,usedL_snoc,nsize_append,nsize_cons,nsize_nil,hns',H1.out.2.2.2.2.2.2.2.2.2.2]
      congr 1
     ·rw [hstep]
      exact ⟨hbF', .inr ⟨_,i,a++[e],ts,g,cap,cur',_,rfl,by rw [hil'],hF',fun _ h=>h.elim⟩⟩
     ·simp [intOf]
      omega
  ·obtain rfl:j=en:=by omega
   have hnlt:¬ (j:Int) < (j:Int):=by omega
   have hen:=HH.out.2.2.2.2
   have htk:es.take j=es:=by rw [hen,List.take_length]
   rw [htk] at hR
   have hok:=fill_ok (lvl:=lvl) HH.out.2.2.2.1 es.length (Nat.le_refl _)
   rw [List.take_length] at hok
   obtain ⟨Ls,hLs⟩:∃ Ls,Ls=fillL lvl es:=⟨_,rfl⟩
   rw [htk, ← hLs]
   rw [← hLs] at hR hok
   have hlen:Ls.length≤100000:=by
    have h1:=rows_len hok.ne
    rw [hok.flat] at h1
    omega
   have HL:=Lib.hid (anZ hLs (anZ hok hlen))
   clear hLs hok hen htk
   rcases snoc_cases3 Ls with rfl | ⟨b,rfl⟩ | ⟨i,a,b,rfl⟩
   ·rcases hR.2 with ⟨_,rfl⟩ | ⟨S,i,a,ts,g,cap,cur,ev,h1,_⟩
    ·have HB:=Lib.hid hR.1
     clear hR HR0
     go_wp2
     go_ret
     refine ⟨_,rfl,?_,HB.out⟩
     rw [← HL.out.1]
     exact Rd.nil _ _ _
    ·simp at h1
   ·rcases hR.2 with ⟨h1,_⟩ | ⟨S,i,a,ts,g,cap,cur,ev,h1,rfl,hF,_⟩
    ·cases h1
    ·obtain ⟨rfl,rfl⟩:i=[]∧a=b:=by
      rcases i with _ | ⟨x,r⟩
      ·exact ⟨rfl,by simpa using h1.symm⟩
      ·have:=congrArg List.length h1
       simp at this
     have HB:=Lib.hid (anZ hR.1 (hF.rd HH.out.2.2.1).1)
     clear hR HR0 hF h1
     go_wp2
     go_ret
     refine ⟨_,rfl,?_,HB.out.1⟩
     rw [← HL.out.1]
     exact HB.out.2
   ·rcases hR.2 with ⟨h1,_⟩ | ⟨S,i',b',ts,g,cap,cur,ev,h1,rfl,hF,_⟩
    ·simp at h1
    ·obtain ⟨rfl,rfl⟩:i'=i++[a]∧b'=b:=by
      have h2:(i++[a])++[b]=i'++[b']:=by rw [← h1]; simp
      obtain ⟨e1,e2⟩:=List.append_inj' h2 rfl
      exact ⟨e1.symm,by simpa using e2.symm⟩
     have hne:=HL.out.2.1.ne a (by simp)
     obtain ⟨k,hk⟩:∃ k,a.length=k+1:=⟨a.length-1,by have:=List.length_pos_iff.2 hne; omega⟩
     obtain ⟨ea,ec2,s1,s2,s3,s4⟩:=hF.share HH.out.2.2.1 hR.1 hk
     obtain ⟨evb,evc,rfl,_⟩:=hF.row.shape
     have cl:∀ j u,(lastC lvl (.slice evb b'.length evc))[j]? = some u→wr.cell? ⟨g,(i++[a]).length*4+j,none⟩=some u:=fun j u hu=>hF.last hu
     obtain ⟨il,hil⟩:∃ il,il=i.length:=⟨_,rfl⟩
     have e4:(i++[a]).length=il+1:=by rw [List.length_append,hil]; rfl
     rw [e4]
     rw [e4] at cl
     rw [← hil] at s1 s4
     obtain ⟨bn,hbn⟩:∃ bn,bn=b'.length:=⟨_,rfl⟩
     rw [← hbn] at cl s3
     have l0:wr.cell? ⟨g,(il+1)*4,none⟩=some (.int .i64 0):=cl 0 _ rfl
     have l1:wr.cell? ⟨g,(il+1)*4+1,none⟩=some (.int .i64 (lvl:Nat)):=cl 1 _ rfl
     have l2:wr.cell? ⟨g,(il+1)*4+2,none⟩=some (.slice evb bn evc):=cl 2 _ rfl
     have l3:wr.cell? ⟨g,(il+1)*4+3,none⟩=some (.slice none 0 0):=cl 3 _ rfl
     have LO:=lone_any (p:=0) (lvl:=lvl) (tv:=.slice none 0 0) wr s3
     have HF:=Lib.hid (anZ hF (anZ hR.1 (anZ s1 (anZ s2 (anZ s3 (anZ s4 (anZ hk (anZ hil (anZ hbn e4)))))))))
     obtain ⟨lb,hlb⟩:∃ lb,lb=loneB lvl b'.length:=⟨_,rfl⟩
     rw [← hlb] at LO
     have HLB:=Lib.hid hlb
     have hl2:il≤100000:=by have:=HL.out.2.2; rw [List.length_append] at this; omega
     have hw1:IntKind.i64.wrap ((il:Int)+1)=(il:Int)+1:=IntWalk.i64_in _ (by omega)
     have hi1:(0:Int) < (il:Int)+1:=by omega
     have hi2:(il:Int)+1 < (il:Int)+1+1:=by omega
     clear hR HR0 hF h1 s1 s2 s3 s4 hk hil hbn e4 cl hlb hne
     go_wp2_with fail
     refine LO.mono ?_
     rintro e w2 ⟨rfl,hb2⟩
     clear LO l0 l1 l2 l3
     obtain ⟨hF,hbw,s1,s2,s3,s4,hk,hil,hbn,e4⟩:=HF.out
     cases lb with
     | false =>
      have hfin:=((hF.below hb2).rd HH.out.2.2.1).1
      rw [e4] at hfin
      have HB:=Lib.hid (anZ (hbw.trans (hb2.mono hbw.size)) hfin)
      clear hF hbw s1 s2 s3 s4 hk hil hbn e4 hb2 hfin
      go_wp2
      go_ret
      refine ⟨_,rfl,?_,HB.out.1⟩
      rw [← HL.out.1,share_snoc,if_neg (by rw [← HLB.out]; exact fun h=>by cases h)]
      have:=HB.out.2
      rw [List.append_assoc] at this
      exact this
     | true =>
      have hF2:=(hF.below hb2).below ((Below.refl w2.heap.size w2).drew)
      obtain ⟨ea',ec',t1,t2,t3,t4⟩:=hF2.share HH.out.2.2.1 ((hbw.trans (hb2.mono hbw.size)).drew) hk
      have c2:=hF2.last (j:=2) rfl
      rw [e4] at c2 t4
      rw [← hbn] at c2 t2 t3 t4
      rw [← hil] at t1 t4
      have SO:=shareOne_any (g:=g) (p1:=il*4) (p2:=(il+1)*4) t1 c2 hF2.froz (by omega) t2 t3 hk hbn (by have h1:=HL.out.2.1.fit a (by simp); have h2:=length_le_nsize lvl a; omega) (by have h1:=HL.out.2.1.fit b' (by simp); have h2:=length_le_nsize lvl b'; omega) (fun q hq=>hF2.lt q hq.1) (hF2.lt g hF2.gS)
      have hw2:IntKind.i64.wrap (il:Int)=(il:Int):=IntWalk.i64_in _ (by omega)
      have hi3:(il:Int) < (il:Int)+1+1:=by omega
      have hi4:¬ (il:Int)+1 < 0:=by omega
      have hi5:¬ (il:Int) < 0:=by omega
      have HT:=Lib.hid (anZ t4 hk)
      obtain ⟨Sx,hSx⟩:∃ Sx:World→Prop,∀ W,Sx W↔True:=⟨_,fun _=>Iff.rfl⟩
      have HX:=Lib.hid (fun (W:World) (_:Sx W)=>True.intro)
      have hD:Sx w2.drew:=(hSx _).2 trivial
      have HS:=Lib.hid hSx
      clear hF hbw s1 s2 s3 s4 hk hil hbn e4 hb2 hF2 t1 t2 t3 t4 c2 hSx
      go_wp2_with fail
      refine region_till 99 Sx (by kernel_rfl) hD (fun hS=>?_)
      refine tkZ (i:=0) 65 (.slice (some ⟨g,0,none⟩) (il+1+1) cap) rfl rfl (by kernel_rfl) (fun _ _ _ h=>h) (by rfl) (fun W hW=>?_) hS ?_
      ·have hx:=HX.out W hW
       clear hW
       go_simp
      simp only [Act.put,sAZ,sBZ,sCZ]
      refine tkZ (i:=1) 66 (.int .i64 ((il:Int)+1)) rfl rfl (by kernel_rfl) (fun _ _ _ h=>h) (by rfl) (fun W hW=>?_) hS ?_
      ·have hx:=HX.out W hW
       clear hW
       go_simp
      simp only [Act.put,sAZ,sBZ,sCZ]
      refine tkZ (i:=2) 67 (.int .i64 (il:Int)) rfl rfl (by kernel_rfl) (fun _ _ _ h=>h) (by rfl) (fun W hW=>?_) hS ?_
      ·have hx:=HX.out W hW
       clear hW
       go_simp
      simp only [Act.put,sAZ,sBZ,sCZ]
      refine tkZ (i:=3) 68 (.pointer (some ⟨g,il*4,none⟩)) rfl rfl (by kernel_rfl) (fun _ _ _ h=>h) (by rfl) (fun W hW=>?_) hS ?_
      ·have hx:=HX.out W hW
       clear hW
       go_simp
      simp only [Act.put,sAZ,sBZ,sCZ]
      refine tkZ (i:=4) 69 (.slice (some ⟨g,0,none⟩) (il+1+1) cap) rfl rfl (by kernel_rfl) (fun _ _ _ h=>h) (by rfl) (fun W hW=>?_) hS ?_
      ·have hx:=HX.out W hW
       clear hW
       go_simp
      simp only [Act.put,sAZ,sBZ,sCZ]
      refine tkZ (i:=5) 70 (.int .i64 ((il:Int)+1)) rfl rfl (by kernel_rfl) (fun _ _ _ h=>h) (by rfl) (fun W hW=>?_) hS ?_
      ·have hx:=HX.out W hW
       clear hW
       go_simp
      simp only [Act.put,sAZ,sBZ,sCZ]
      refine tkZ (i:=6) 71 (.pointer (some ⟨g,(il+1)*4,none⟩)) rfl rfl (by kernel_rfl) (fun _ _ _ h=>h) (by rfl) (fun W hW=>?_) hS ?_
      ·have hx:=HX.out W hW
       clear hW
       go_simp
      simp only [Act.put,sAZ,sBZ,sCZ]
      refine next_till 7 (by kernel_rfl) rfl (fun K hK=>?_)
      go_simp
      refine SO.mono ?_
      rintro e w3 ⟨rfl,v,w1,hb1,hv,rfl⟩
      refine hK.out _ _ (fun _=>(HS.out _).2 trivial) ?_
      clear hK K SO hS
      obtain ⟨f1,f2⟩:=HT.out.1 v w1 hb1 hv
      rw [show il*4+4=(il+1)*4 by omega] at f1 f2
      have H9:=Lib.hid (anZ f1 f2)
      clear f1 f2 hb1 hv
      refine done_till (by kernel_rfl) ?_ _
      go_wp2
      go_ret
      refine ⟨_,rfl,?_,H9.out.2⟩
      rw [← HL.out.1,share_snoc,if_pos HLB.out.symm,HT.out.2,show k+1-1=k by omega]
      exact H9.out.1
end Go.Proofs.YtgkofgifoiinkaaGreat
