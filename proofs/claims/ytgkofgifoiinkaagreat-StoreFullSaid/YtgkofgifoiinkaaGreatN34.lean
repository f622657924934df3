/- The walks of end and of Checkpoint: what is done to the device, and whether the store is dead behind it; condition: its numbers are within their bounds. -/
import Derived.Test.YtgkofgifoiinkaaGreatN33
import Derived.Test.YtgkofgifoiinkaaGreatN03
import Derived.Test.YtgkofgifoiinkaaGreatN30
import Derived.Test.YtgkofgifoiinkaaGreatN32
import Derived.Test.YtgkofgifoiinkaaGreatN31
namespace Go.Proofs.YtgkofgifoiinkaaGreat
open Go.RowKit
section
variable {w w1 w2 w3:World} {b:Nat} {D D1 D2:Dv} {F:Nat→Prop}
theorem ds_ahead (h0:∀ q,F q→q < w.heap.size) (hb:Below w.heap.size w w1) (hd:Dev w2 b D1 (Grow F w1 w2)) (ho:Only F w1 w2):Dev w2 b D1 (Grow F w w2)∧Only F w w2:=by
 have s1:=hb.size
 have s2:=ho.size
 refine ⟨hd.widen (fun q hq=>hq.imp id fun hq=>⟨by omega,hq.2⟩) (fun q hq=>?_),(Only.of_below hb F).trans ho⟩
 rcases hq with hq | hq
 ·have:=h0 q hq; omega
 ·exact hq.2
theorem ds_then (h0:∀ q,F q→q < w.heap.size) (ho:Only F w w1) (hd:Dev w2 b D1 (Grow (Grow F w w1) w1 w2)) (h2:Only (Grow F w w1) w1 w2):Dev w2 b D1 (Grow F w w2)∧Only F w w2:=by
 have s1:=ho.size
 have s2:=h2.size
 refine ⟨hd.widen (fun q hq=>?_) (fun q hq=>?_),ho.then h2 fun q hq=>?_⟩
 ·rcases hq with (hq | hq) | hq
  ·exact .inl hq
  ·exact .inr ⟨hq.1,by omega⟩
  ·exact .inr ⟨by omega,hq.2⟩
 ·rcases hq with hq | hq
  ·have:=h0 q hq; omega
  ·exact hq.2
 ·exact hq.imp id fun h=>h.1
set_option maxRecDepth 100000 in
set_option maxHeartbeats 1000000 in
theorem save_any {lv:Value} {l:Bytes} {n:Nat} (g:Nat) (h:Dev w b D F) (hu:Upto D n) (hn:n < 1000000) (hg:g < 18446744073709551616) (hl:Bs w lv l) :
  Calls Tryz.prog 107 #[ptr b, .int .u64 (g:Int),lv] w (DSteps w b F (sCode D g l) (sDev D g l)):=by
 obtain ⟨la,lc,rfl,_⟩:=hl.shape
 have hmg:=mayGen_any g w hg
 have hsz:=size_any h
 by_cases hm:sMay D g
 ·obtain ⟨h1,h2⟩:=hm
  rw [h1] at hmg
  have h2':¬ (D.bk.length:Int) < 2:=by omega
  by_cases hmany:480 < l.length
  ·have e:=save_many (D:=D) (g:=g) (l:=l) ⟨h1,h2⟩ hmany
   rw [e.1,e.2]
   have hmany':(480:Int) < (l.length:Int):=by omega
   have HF:=Lib.hid (d_same h)
   clear h1 h2 hmany e h hl hu
   go_enter Tryz.func107,Tryz.ntmps107
   go_wp2_with fail
   refine hmg.mono ?_
   rintro e w1 ⟨rfl,rfl⟩
   go_wp2_with fail
   refine hsz.mono ?_
   rintro e w1 ⟨rfl,rfl⟩
   go_wp2
   go_ret
   exact ⟨rfl,HF.out⟩
  ·have hmany':(l.length:Int)≤480:=by omega
   have hl480:l.length≤480:=by omega
   have hcode:sCode D g l=(if wroteC D g l=0 then fcode (wroteD D g l) else wroteC D g l)∧sDev D g l=(if wroteC D g l=0 then fdev (wroteD D g l) else wroteD D g l):=by
    unfold sCode sDev
    constructor
    ·rw [if_pos ⟨h1,h2⟩,if_neg hmany]
    ·rw [if_pos ⟨h1,h2⟩,if_neg hmany]
   have hup:=wdev_upto hu ((g % 2:Nat):Int) (sealG g l)
   have hput:=put_any (b:=.slice none 0 0) (l:=[]) g 8 w (Bs.nil w) (by simp)
   have hpl:putL [] g 8=beL g 8:=by unfold putL; rw [if_pos (by rfl)]; rfl
   rw [hpl] at hput
   have H:=Lib.hid (anZ h (anZ hl (anZ hcode (anZ hup.1 (anZ (hu.small (by omega)) (anZ hmg hsz))))))
   have HP:=Lib.hid hput
   clear h1 h2 hmany h hl hu hcode hup hmg hsz hput hpl
   go_enter Tryz.func107,Tryz.ntmps107
   go_wp2_with fail
   refine H.out.2.2.2.2.2.1.mono ?_
   rintro e w1 ⟨rfl,rfl⟩
   go_wp2_with fail
   refine H.out.2.2.2.2.2.2.mono ?_
   rintro e w1 ⟨rfl,rfl⟩
   go_wp2_with fail
   refine HP.out.mono ?_
   rintro e w1 ⟨v1,rfl,o1,b1⟩
   have hl1:=H.out.2.1.below b1
   have hsz1:(beL g 8).length+l.length≤140737488355328:=by rw [beL_length]; omega
   have hz1:=b1.size
   have H1:=Lib.hid (anZ o1 b1)
   clear HP b1
   go_wp2_with (at_builtin; refine wpList_append_bs bt rfl _ _ rfl _ rfl rfl o1 hl1 hsz1 hz1 ?_; intro v2 w2 o2 g2)
   have b2:=below_own H1.out.2 H1.out.1 g2
   have hsl:=blkSeal_any (b:=v2) (l:=rootL g l) 1 w2 o2.bs
   have hV:sealV 1 (rootL g l)=(sealG g l,0):=by unfold sealV; rw [if_neg (by decide),if_neg (by rw [rootL_length]; omega)]; rfl
   unfold Seals at hsl
   rw [hV] at hsl
   have H2:=Lib.hid (anZ b2 hsl)
   clear b2 hsl hV o1 hl1 hsz1 hz1 o2 g2 H1
   go_wp2_with fail
   refine H2.out.2.mono ?_
   rintro e w3 ⟨v3,t3,rfl,o3,b3⟩
   have b3':=H2.out.1.trans (b3.mono H2.out.1.size)
   have h3:=H.out.1.below b3'
   have hwr:=dwrite_any h3 H.out.2.2.2.2.1 ((g % 2:Nat):Int) o3.bs (fun q hq hf=>by
    have s1:=o3.own hq
    have s2:=H2.out.1.size
    have s3:=H.out.1.fl q hf
    omega)
   have htu:=turn_any g w3
   have H3:=Lib.hid (anZ b3' (anZ h3 (anZ hwr htu)))
   clear b3 b3' h3 hwr o3 htu H2
   go_wp2_with fail
   refine H3.out.2.2.2.mono ?_
   rintro e w4 ⟨rfl,rfl⟩
   go_wp2_with fail
   refine H3.out.2.2.1.mono ?_
   rintro e w4 ⟨rfl,hd4,ho4⟩
   have hdone:=ds_ahead H.out.1.fl H3.out.1 hd4 ho4
   have hc:=H.out.2.2.1
   unfold wroteC wroteD at hc
   by_cases h0:wcode D ((g % 2:Nat):Int) (sealG g l)=0
   ·rw [if_pos h0,if_pos h0] at hc
    have HE:=Lib.hid hc
    have hfl:=dflush_any hdone.1 (H.out.2.2.2.1.small (by omega))
    rw [h0]
    have HD:=Lib.hid (anZ hdone hfl)
    clear hc h0 hd4 ho4 hdone hfl
    go_wp2_with fail
    refine HD.out.2.mono ?_
    rintro e w5 ⟨rfl,hd5,ho5⟩
    have hfin:=ds_then H.out.1.fl HD.out.1.2 hd5 ho5
    have HF:=Lib.hid hfin
    clear hd5 ho5 hfin
    go_wp2
    go_ret
    rw [HE.out.1,HE.out.2]
    exact ⟨rfl,HF.out⟩
   ·have h0':(wcode D ((g % 2:Nat):Int) (sealG g l) != 0)=true:=by simpa using h0
    rw [if_neg h0,if_neg h0] at hc
    have HE:=Lib.hid hc
    have HD:=Lib.hid hdone
    clear hc h0 hd4 ho4 hdone
    generalize wcode D ((g % 2:Nat):Int) (sealG g l)=c at *
    go_wp2
    go_ret
    rw [HE.out.1,HE.out.2]
    exact ⟨rfl,HD.out⟩
 ·have e:=save_not (D:=D) (l:=l) hm
  rw [e.1,e.2]
  have HF:=Lib.hid (d_same h)
  by_cases h1:genB g=true
  ·have h2':(D.bk.length:Int) < 2:=by
    by_cases h2:2≤D.bk.length
    ·exact absurd ⟨h1,h2⟩ hm
    ·omega
   rw [h1] at hmg
   clear hm e h1 h hl hu
   go_enter Tryz.func107,Tryz.ntmps107
   go_wp2_with fail
   refine hmg.mono ?_
   rintro e w1 ⟨rfl,rfl⟩
   go_wp2_with fail
   refine hsz.mono ?_
   rintro e w1 ⟨rfl,rfl⟩
   go_wp2
   go_ret
   exact ⟨rfl,HF.out⟩
  ·have h1':genB g=false:=by simpa using h1
   rw [h1'] at hmg
   clear hm e h1 h1' h hl hu
   go_enter Tryz.func107,Tryz.ntmps107
   go_wp2_with fail
   refine hmg.mono ?_
   rintro e w1 ⟨rfl,rfl⟩
   go_wp2
   go_ret
   exact ⟨rfl,HF.out⟩
end
end Go.Proofs.YtgkofgifoiinkaaGreat
namespace Go.Proofs.YtgkofgifoiinkaaGreat
open Go.RowKit
theorem sDev_upto {D:Dv} {n:Nat} (h:Upto D n) (g:Nat) (l:Bytes):Upto (sDev D g l) (n+2)∧(sDev D g l).bk.length=D.bk.length:=by
 unfold sDev wroteD
 have hw:=wdev_upto h ((g % 2:Nat):Int) (sealG g l)
 split
 ·split
  ·exact ⟨h.more (by omega),rfl⟩
  ·split
   ·have hf:=fdev_upto hw.1
    exact ⟨hf.1.more (by omega),hf.2.trans hw.2⟩
   ·exact ⟨hw.1.more (by omega),hw.2⟩
 ·exact ⟨h.more (by omega),rfl⟩
section
variable {w:World} {sb db pb tb jb mb g n:Nat} {D:Dv} {ps:List Pg} {J:Jn} {dead:Bool} {P:List Pr} {F G:Nat→Prop}
def Saves (w:World) (sb db pb tb jb mb:Nat) (D:Dv) (ps:List Pg) (J:Jn) (g:Nat) (dead:Bool) (P:List Pr) (F G:Nat→Prop) (l:Bytes) (e:Ending) (w':World):Prop :=
 e = .returned (err (sCode D (g+1) l))∧∃ F' G',StA w' sb db pb tb jb mb (sDev D (g+1) l) ps J (if sCode D (g+1) l=0 then g+1 else g) dead P F' G'∧Step (AS sb jb mb F G) w w' (AS sb jb mb F' G')
set_option maxRecDepth 100000 in
set_option maxHeartbeats 4000000 in
theorem ssave_any (h:StA w sb db pb tb jb mb D ps J g dead P F G) (hJ:J.Fit) (hu:Upto D n) (hn:n < 1000000) (hg:g+1≤4000000) (hsq:J.seq+J.held≤4000000) {pg:Int} (hp1 : -1≤pg) (hp2:pg≤4000000) :
  Calls Tryz.prog 79 #[ptr sb, .int .i64 pg] w (Saves w sb db pb tb jb mb D ps J g dead P F G (bodyR pg (ringAt J.at_ J.size J.ahead) (J.seq+J.held))):=by
 obtain ⟨c0,c1,c2,c3,c4,c5,c6,c7⟩:=h.b.top.cells
 have MK:=mark_any h.j hJ
 have hat:ringAt J.at_ J.size J.ahead≤4096:=by
  have h1:ringAt J.at_ J.size J.ahead < J.size:=ringAt_le hJ.atl hJ.ahl
  have:=hJ.few
  omega
 unfold markV at MK
 obtain ⟨A,hA⟩:∃ A,A=ringAt J.at_ J.size J.ahead:=⟨_,rfl⟩
 obtain ⟨Q,hQ⟩:∃ Q,Q=J.seq+J.held:=⟨_,rfl⟩
 have hQi:((J.seq:Int)+(J.held:Int))=(Q:Int):=by rw [hQ]; simp
 rw [← hA] at MK hat ⊢
 rw [← hQ] at hsq ⊢
 rw [hQi] at MK
 have HH:=Lib.hid (anZ h (anZ hu (anZ hn (anZ hg (anZ hsq (anZ hp1 (anZ hp2 hat)))))))
 clear h hu hn hsq hp1 hp2 hat hJ hA hQ hQi
 go_enter Tryz.func79,Tryz.ntmps79
 go_wp2_with fail
 refine MK.mono ?_
 rintro e w1 ⟨rfl,hb1⟩
 clear MK c0 c1 c2 c3 c4 c5 c6 c7
 have hA1:=HH.out.1.below hb1
 have HB:=Lib.hid (anZ hA1 hb1)
 clear hA1 hb1
 go_upto_region 2 with fail
 have HX:=Lib.hid (fun (W:World) (hW:W.heap[sb]? = w1.heap[sb]?)=>((HB.out.1.b.top.kept hW).cells))
 refine region_till 99 (fun W=>W.heap[sb]? = w1.heap[sb]?) (by kernel_rfl) rfl (fun hS=>?_)
 refine tkZ (i:=0) 16 (ptr sb) rfl rfl (by kernel_rfl) (fun _ _ _ h=>h) (by rfl) (fun W hW=>?_) hS ?_
 ·obtain ⟨c0,c1,c2,c3,c4,c5,c6,c7⟩:=HX.out W hW
  clear hW
  go_simp
 simp only [Act.put,sAZ,sBZ,sCZ]
 refine tkZ (i:=1) 17 (ptr sb) rfl rfl (by kernel_rfl) (fun _ _ _ h=>h) (by rfl) (fun W hW=>?_) hS ?_
 ·obtain ⟨c0,c1,c2,c3,c4,c5,c6,c7⟩:=HX.out W hW
  clear hW
  go_simp
 simp only [Act.put,sAZ,sBZ,sCZ]
 refine tkZ (i:=2) 18 (.pointer (some ⟨sb,0,none⟩)) rfl rfl (by kernel_rfl) (fun _ _ _ h=>h) (by rfl) (fun W hW=>?_) hS ?_
 ·obtain ⟨c0,c1,c2,c3,c4,c5,c6,c7⟩:=HX.out W hW
  clear hW
  go_simp
 simp only [Act.put,sAZ,sBZ,sCZ]
 refine tkZ (i:=3) 19 (ptr db) rfl rfl (by kernel_rfl) (fun _ _ _ h=>h) (by rfl) (fun W hW=>?_) hS ?_
 ·obtain ⟨c0,c1,c2,c3,c4,c5,c6,c7⟩:=HX.out W hW
  clear hW
  go_simp
 simp only [Act.put,sAZ,sBZ,sCZ]
 refine tkZ (i:=4) 20 (ptr sb) rfl rfl (by kernel_rfl) (fun _ _ _ h=>h) (by rfl) (fun W hW=>?_) hS ?_
 ·obtain ⟨c0,c1,c2,c3,c4,c5,c6,c7⟩:=HX.out W hW
  clear hW
  go_simp
 simp only [Act.put,sAZ,sBZ,sCZ]
 refine tkZ (i:=5) 21 (ptr sb) rfl rfl (by kernel_rfl) (fun _ _ _ h=>h) (by rfl) (fun W hW=>?_) hS ?_
 ·obtain ⟨c0,c1,c2,c3,c4,c5,c6,c7⟩:=HX.out W hW
  clear hW
  go_simp
 simp only [Act.put,sAZ,sBZ,sCZ]
 refine tkZ (i:=6) 22 (.pointer (some ⟨sb,4,none⟩)) rfl rfl (by kernel_rfl) (fun _ _ _ h=>h) (by rfl) (fun W hW=>?_) hS ?_
 ·obtain ⟨c0,c1,c2,c3,c4,c5,c6,c7⟩:=HX.out W hW
  clear hW
  go_simp
 simp only [Act.put,sAZ,sBZ,sCZ]
 refine tkZ (i:=7) 23 (.int .u64 (g:Int)) rfl rfl (by kernel_rfl) (fun _ _ _ h=>h) (by rfl) (fun W hW=>?_) hS ?_
 ·obtain ⟨c0,c1,c2,c3,c4,c5,c6,c7⟩:=HX.out W hW
  clear hW
  go_simp
 simp only [Act.put,sAZ,sBZ,sCZ]
 refine tkZ (i:=8) 24 (.int .u64 ((g+1:Nat):Int)) rfl rfl (by kernel_rfl) (fun _ _ _ h=>h) (by rfl) (fun W hW=>?_) hS ?_
 ·obtain ⟨c0,c1,c2,c3,c4,c5,c6,c7⟩:=HX.out W hW
  clear hW
  go_simp
  exact IntWalk.u64_in _ (by omega)
 simp only [Act.put,sAZ,sBZ,sCZ]
 refine tkZ (i:=9) 25 (.int .i64 pg) rfl rfl (by kernel_rfl) (fun _ _ _ h=>h) (by rfl) (fun W hW=>?_) hS ?_
 ·obtain ⟨c0,c1,c2,c3,c4,c5,c6,c7⟩:=HX.out W hW
  clear hW
  go_simp
 simp only [Act.put,sAZ,sBZ,sCZ]
 refine tkZ (i:=10) 26 (.int .i64 (A:Int)) rfl rfl (by kernel_rfl) (fun _ _ _ h=>h) (by rfl) (fun W hW=>?_) hS ?_
 ·obtain ⟨c0,c1,c2,c3,c4,c5,c6,c7⟩:=HX.out W hW
  clear hW
  go_simp
 simp only [Act.put,sAZ,sBZ,sCZ]
 refine tkZ (i:=11) 27 (.int .u64 (Q:Int)) rfl rfl (by kernel_rfl) (fun _ _ _ h=>h) (by rfl) (fun W hW=>?_) hS ?_
 ·obtain ⟨c0,c1,c2,c3,c4,c5,c6,c7⟩:=HX.out W hW
  clear hW
  go_simp
 simp only [Act.put,sAZ,sBZ,sCZ]
 refine tkZ (i:=12) 28 (.agg #[.int .i64 pg, .int .i64 (A:Int), .int .u64 (Q:Int)]) rfl rfl (by kernel_rfl) (fun _ _ _ h=>h) (by rfl) (fun W hW=>?_) hS ?_
 ·obtain ⟨c0,c1,c2,c3,c4,c5,c6,c7⟩:=HX.out W hW
  clear hW
  go_simp
 simp only [Act.put,sAZ,sBZ,sCZ]
 refine next_till 13 (by kernel_rfl) rfl (fun K hK=>?_)
 go_simp
 have BO:=sbody_any w1.drew pg A Q (by have:=HH.out.2.2.2.2.2.1; omega) (by have:=HH.out.2.2.2.2.2.2.1; omega) (by have:=HH.out.2.2.2.2.2.2.2; omega) (by have:=HH.out.2.2.2.2.1; omega)
 refine BO.mono ?_
 rintro e w2 ⟨v,rfl,hv,hb2⟩
 clear BO
 have hA1:=HB.out.1.drewN 1
 have hA2:=hA1.below hb2
 have S2:w2.heap[sb]? = w1.heap[sb]?:=hb2.block sb hA1.b.top.lt
 obtain ⟨L,hL⟩:∃ L,L=bodyR pg A Q:=⟨_,rfl⟩
 rw [← hL] at hv
 have HL:=Lib.hid hL
 have hbs:=hv.bs
 have SV:=save_any (g+1) hA2.b.dev HH.out.2.1 HH.out.2.2.1 (by omega) hbs
 have hst2:Step (AS sb jb mb F G) w w2 (AS sb jb mb F G):=((Step.of_below HB.out.2 _).bel (below_drewN (Below.refl _ _) 1)).bel hb2
 obtain ⟨va,vc,rfl, -⟩:=hbs.shape
 obtain ⟨vn,hvn⟩:∃ vn,vn=L.length:=⟨_,rfl⟩
 rw [← hvn] at SV
 rw [← hvn]
 have HC:=Lib.hid (anZ hA2 hst2)
 clear hv hb2 hA1 hA2 hbs hst2 hvn hL
 have hgn:(((g+1:Nat):Int))=(g:Int)+1:=by omega
 rw [hgn] at SV
 go_simp
 refine hK.out _ _ (fun _=>S2) ?_
 clear hK K
 refine next_till 14 (by kernel_rfl) rfl (fun K hK=>?_)
 go_simp
 refine SV.mono ?_
 rintro e w3 ⟨rfl,hd3,ho3⟩
 clear SV
 obtain ⟨hB3,hst3⟩:=HC.out.1.b.devs hd3 ho3 (sDev_upto HH.out.2.1 _ _).2
 obtain ⟨hA3,hst4⟩:=HC.out.1.with hB3 hst3
 have S3:w3.heap[sb]? = w1.heap[sb]?:=(show w3.heap[sb]? = _ from hA3.b.top).trans (show w1.heap[sb]? = _ from HB.out.1.b.top).symm
 obtain ⟨rc,hrc⟩:∃ rc,rc=sCode D (g+1) L:=⟨_,rfl⟩
 have HR:=Lib.hid (anZ hrc (anZ hA3 (HC.out.2.trans hst4)))
 rw [← hrc]
 clear hB3 hst3 hA3 hst4 hd3 ho3 hrc S2 hS
 have hS:=S3
 go_simp
 refine hK.out _ _ (fun _=>S3) ?_
 clear hK K
 refine tkZ (i:=15) 7 (.int .i64 rc) rfl rfl (by kernel_rfl) (fun _ _ _ h=>h) (by rfl) (fun W hW=>?_) hS ?_
 ·clear HX
  clear hW
  go_simp
 simp only [Act.put,sAZ,sBZ,sCZ]
 refine done_till (by kernel_rfl) ?_ _
 clear hS S3 HX
 by_cases h0:rc=0
 ·have hA3:=HR.out.2.1
  obtain ⟨c0,c1,c2,c3,c4,c5,c6,c7⟩:=hA3.b.top.cells
  have f4:=hA3.b.top.frozen 4
  subst h0
  clear hA3
  have hg64:IntKind.u64.wrap ((g:Int)+1)=(g:Int)+1:=IntWalk.u64_in _ (by omega)
  go_wp2_with fail
  go_ret
  obtain ⟨hr,hA3,hst⟩:=HR.out
  have hgn:(((g+1:Nat):Int))=(g:Int)+1:=by omega
  have hset:=hA3.b.set (g':=g+1) (jv':=ptr jb) (dead':=dead) 4 (.int .u64 ((g:Int)+1)) (by rw [← hgn]; exact hA3.b.top.setGen (g+1))
  obtain ⟨h1,h2⟩:=hA3.with hset.1 hset.2
  rw [← HL.out]
  refine ⟨by rw [← hr]; rfl,_,_,?_,hst.trans h2⟩
  rw [← hr,if_pos rfl]
  exact h1
 ·have hne:¬ rc=0:=h0
  go_wp2_with fail
  go_ret
  obtain ⟨hr,hA3,hst⟩:=HR.out
  rw [← HL.out]
  refine ⟨by rw [← hr]; rfl,_,_,?_,hst⟩
  rw [← hr,if_neg hne]
  exact hA3
end
end Go.Proofs.YtgkofgifoiinkaaGreat
namespace Go.Proofs.YtgkofgifoiinkaaGreat
open Go.RowKit
def markA (J:Jn):Nat:=ringAt J.at_ J.size J.ahead
def markS (J:Jn):Nat:=J.seq+J.held
structure Phs (D0:Dv) (ps0:List Pg) (J0:Jn) (g0 n:Nat) (P:List Pr) (A1 A2:Dv→List Pg→Int→Prop) (A3:Dv→List Pg→Prop) (Bad:Dv→Prop):Prop where
 on:D0.on=true
 upto:Upto D0 n
 num:n≤900000
 ok:okUp P
 few:P.length≤100000
 free:mostP P≤freeP (dropN ps0 ps0.length)
 most:mostP P≤4000
 fit:J0.Fit
 live:J0.dead=false
 seqs:J0.seq+J0.held≤4000000
 gen:g0+1≤4000000
 s1:∀ (i:Nat) (BL:List Bytes) (root':Int) (pgs':List Nat),(∀ j,j < i→leastFree (tdones j (dropN ps0 ps0.length))≠none)→BL.length=i→(∀ b∈BL,b.length=512)→i≤mostP P →
  Rt (ovr (blkOf D0 362) ((placeT (dropN ps0 ps0.length) i).zip BL)) (dropN ps0 ps0.length).length root' P pgs'→pgs'.Perm (placeT (dropN ps0 ps0.length) i) →
  ((writesP 362 D0 ((placeT (dropN ps0 ps0.length) i).zip BL)).2=0∧A1 (writesP 362 D0 ((placeT (dropN ps0 ps0.length) i).zip BL)).1 (tdones i (dropN ps0 ps0.length)) root') ∨
  ((writesP 362 D0 ((placeT (dropN ps0 ps0.length) i).zip BL)).2=8∧Bad (writesP 362 D0 ((placeT (dropN ps0 ps0.length) i).zip BL)).1)
 u1:∀ D ps pg,A1 D ps pg→Upto D (n+4000)
 s2:∀ D ps pg,A1 D ps pg→(fcode D=0∧A2 (fdev D) ps pg)∨(fcode D=8∧Bad (fdev D))
 u2:∀ D ps pg,A2 D ps pg→Upto D (n+4001) ∧ -1≤pg∧pg≤4000000
 s3:∀ D ps pg,A2 D ps pg→(sCode D (g0+1) (bodyR pg (markA J0) (markS J0))=0∧A3 (sDev D (g0+1) (bodyR pg (markA J0) (markS J0))) ps)∨(sCode D (g0+1) (bodyR pg (markA J0) (markS J0))=8∧Bad (sDev D (g0+1) (bodyR pg (markA J0) (markS J0))))
def At (w1:World) (T0 X:Nat→Prop) (sb db pb tb jb mb:Nat) (dead:Bool) (P:List Pr) (A:Dv→List Pg→Jn→Nat→World→Prop) (w:World):Prop :=
 ∃ (D:Dv) (ps:List Pg) (J:Jn) (g:Nat) (F G:Nat→Prop),StA w sb db pb tb jb mb D ps J g dead P F G∧(∀ q,X q→¬ AS sb jb mb F G q∧q < w.heap.size)∧Step T0 w1 w (fun q=>AS sb jb mb F G q∨X q)∧A D ps J g w
def Keeps (w1:World) (T0:Nat→Prop) (w:World):Prop:=∃ T,Step T0 w1 w T
section
variable {w1 w w':World} {T0 X:Nat→Prop} {sb db pb tb jb mb:Nat} {dead:Bool} {P:List Pr} {A B:Dv→List Pg→Jn→Nat→World→Prop}
theorem At.keeps (h:At w1 T0 X sb db pb tb jb mb dead P A w):Keeps w1 T0 w:=let ⟨_,_,_,_,_,_,_,_,h,_⟩:=h; ⟨_,h⟩
theorem Keeps.cel {q:Nat} {cs:List Value} {t:TypeId} (h:Keeps w1 T0 w) (hc:Cel w1 q cs t) (hq:¬ T0 q):Cel w q cs t:=let ⟨_,h⟩:=h; hc.only h.only hq
theorem Keeps.rd {τ α:Type} {K:Kd τ α} {v:Value} {l:List α} (h:Keeps w1 T0 w) (hr:Rd K w1 T0 v l):∃ S,Rd K w S v l:=let ⟨_,h⟩:=h; ⟨_,hr.step h⟩
theorem At.weak (h:At w1 T0 X sb db pb tb jb mb dead P A w) (hw:∀ D ps J g w,A D ps J g w→B D ps J g w):At w1 T0 X sb db pb tb jb mb dead P B w:=let ⟨D,ps,J,g,F,G,h1,h2,h3,h4⟩:=h; ⟨D,ps,J,g,F,G,h1,h2,h3,hw _ _ _ _ _ h4⟩
theorem at_step {D D':Dv} {ps ps':List Pg} {J J':Jn} {g g':Nat} {F G F' G':Nat→Prop} {P':List Pr} (hx:∀ q,X q→¬ AS sb jb mb F G q∧q < w.heap.size) (hs:Step T0 w1 w (fun q=>AS sb jb mb F G q∨X q))
  (h':StA w' sb db pb tb jb mb D' ps' J' g' dead P' F' G') (hs':Step (AS sb jb mb F G) w w' (AS sb jb mb F' G')) (hB:B D' ps' J' g' w'):At w1 T0 X sb db pb tb jb mb dead P' B w':=by
 refine ⟨D',ps',J',g',F',G',h',fun q hq=>⟨fun ha=>?_,Nat.lt_of_lt_of_le (hx q hq).2 hs'.size⟩,hs.trans ⟨hs'.only.mono fun q _ hq=>.inl hq,fun q hq=>?_⟩,hB⟩
 ·rcases hs'.more q ha with h1 | h1
  ·exact (hx q hq).1 h1
  ·have:=(hx q hq).2; omega
 ·rcases hq with hq | hq
  ·exact (hs'.more q hq).imp .inl id
  ·exact .inl (.inr hq)
end
section
variable {w1:World} {T0:Nat→Prop} {sb db pb tb jb mb b1 pgb g0 n:Nat} {P:List Pr} {D0:Dv} {ps0:List Pg} {J0:Jn} {A1 A2:Dv→List Pg→Int→Prop} {A3:Dv→List Pg→Prop} {Bad:Dv→Prop}
def BadW (w1:World) (T0 X:Nat→Prop) (sb db pb tb jb mb:Nat) (dead:Bool) (Bad:Dv→Prop) (c:Int) (w:World):Prop:=c=8∧∃ P,At w1 T0 X sb db pb tb jb mb dead P (fun D _ _ _ _=>Bad D) w
theorem chain_saving (H:Phs D0 ps0 J0 g0 n P A1 A2 A3 Bad) (hb1:Cel w1 b1 [ptr sb] 31) (hbo:¬ T0 b1) (hT:T0 pgb) :
  Chain (Keeps w1 T0) (BadW w1 T0 (fun q=>q=pgb) sb db pb tb jb mb false Bad) (savL b1 pgb)
   (At w1 T0 (fun q=>q=pgb) sb db pb tb jb mb false P fun D ps J g w=>D=D0∧ps=ps0∧J=J0∧g=g0∧∃ z,Cel w pgb [.int .i64 z] 3)
   (At w1 T0 (fun q=>q=pgb) sb db pb tb jb mb false P fun D ps J g _=>J=J0.gone∧g=g0+1∧∃ ps',ps=settledP ps'∧A3 D ps'):=by
 have he:=savL_enters b1 pgb
 unfold savL at he ⊢
 refine ⟨fun w h=>h.keeps,he _ (by simp),At w1 T0 (fun q=>q=pgb) sb db pb tb jb mb false P fun D ps J g w=>J=J0∧g=g0∧∃ pg,A1 D ps pg∧Cel w pgb [.int .i64 pg] 3,?_,?_⟩
 ·rintro w hAt
  have hkp:=hAt.keeps
  obtain ⟨D,ps,J,g,F,G,hA,hX,hs,rfl,rfl,rfl,rfl,z,hz⟩:=hAt
  obtain ⟨hxo,hxl⟩:=hX pgb rfl
  have hcb:=hkp.cel hb1 hbo
  have RB:=rebuild_any hA.b H.on H.upto (by have:=H.num; omega) H.ok H.few H.free H.most
  refine (cl_build (Q:=fun rv rc w'=>∃ F' G' ps' D',StA w' sb db pb tb jb mb D' ps' J g false P F' G'∧Step (AS sb jb mb F G) w w' (AS sb jb mb F' G')∧((rc=0∧A1 D' ps' rv)∨(rc=8∧Bad D'))) hcb (RB.mono ?_) ?_).mono ?_
  ·rintro e w' ⟨w2,hB2,hst2,i,BL,root',pgs',F',G',rfl,h1,h2,h3,h4,h5,h6,hB3,hst3⟩
   obtain ⟨hA2,hsA2⟩:=hA.with hB2 hst2
   obtain ⟨hA3,hsA3⟩:=hA2.with hB3 hst3
   refine ⟨_,_,rfl,F',G',_,_,hA3,hsA2.trans hsA3,?_⟩
   rcases H.s1 i BL root' pgs' h1 h2 h3 h4 h5 h6 with ⟨k1,k2⟩ | ⟨k1,k2⟩
   ·left
    rw [k1,if_pos rfl]
    exact ⟨rfl,k2⟩
   ·right
    exact ⟨k1,k2⟩
  ·rintro rv rc w' ⟨F',G',ps',D', -,hst, -⟩
   exact ⟨z,hz.only hst.only hxo⟩
  ·rintro e w3 ⟨rv,rc,w2,rfl,⟨F',G',ps',D',hA2,hst,hc⟩,rfl⟩
   have hxo2:¬ AS sb jb mb F' G' pgb:=fun ha=>by
    rcases hst.more _ ha with h1 | h1
    ·exact hxo h1
    ·omega
   have hz2:=(hz.only hst.only hxo).set 0 (.int .i64 rv)
   have ho:Only (fun q=>q=pgb) w2 (w2.setCell ⟨pgb,0,none⟩ (.int .i64 rv)):=(Only.refl (fun q=>q=pgb) w2).setCell (p:=⟨pgb,0,none⟩) (.inl rfl) _
   have htp:¬ tb=pgb:=fun e=>by
    subst e
    have h5:=(Cel.inj (hA.b.tree) hz).2
    revert h5
    decide
   have hA3:=hA2.only ho htp fun q hq e=>hxo2 (e ▸ hq)
   have hsT:Step T0 w1 (w2.setCell ⟨pgb,0,none⟩ (.int .i64 rv)) (fun q=>AS sb jb mb F' G' q∨q=pgb):=by
    refine (hs.trans (S'':=fun q=>AS sb jb mb F' G' q∨q=pgb) ⟨hst.only.mono fun q _ hq=>.inl hq,fun q hq=>?_⟩).trans ⟨ho.mono fun q _ hq=>.inr hq,fun q hq=>.inl hq⟩
    rcases hq with hq | hq
    ·exact (hst.more q hq).imp .inl id
    ·exact .inl (.inr hq)
   have hX3:∀ q,q=pgb→¬ AS sb jb mb F' G' q∧q < (w2.setCell ⟨pgb,0,none⟩ (.int .i64 rv)).heap.size:=fun q e=>by
    subst e
    exact ⟨hxo2,Nat.lt_of_lt_of_le hxl (Nat.le_trans hst.size ho.size)⟩
   rcases hc with ⟨rfl,k2⟩ | ⟨rfl,k2⟩
   ·exact .inl ⟨rfl,D',ps',_,_,F',G',hA3,hX3,hsT,rfl,rfl,rv,k2,hz2⟩
   ·exact .inr ⟨8,by decide,rfl,rfl,P,D',ps',_,_,F',G',hA3,hX3,hsT,k2⟩
 refine ⟨fun w h=>h.keeps,he _ (by simp),At w1 T0 (fun q=>q=pgb) sb db pb tb jb mb false P fun D ps J g w=>J=J0∧g=g0∧∃ pg,A2 D ps pg∧Cel w pgb [.int .i64 pg] 3,?_,?_⟩
 ·rintro w hAt
  have hkp:=hAt.keeps
  obtain ⟨D,ps,J,g,F,G,hA,hX,hs,rfl,rfl,pg,h1,hz⟩:=hAt
  obtain ⟨hxo,hxl⟩:=hX pgb rfl
  have hu:=H.u1 _ _ _ h1
  refine (cl_flush (hkp.cel hb1 hbo) hA.b.top rfl (dflush_any hA.b.dev (hu.small (by have:=H.num; omega))) (fun e w' h=>⟨_,h.1⟩)).mono ?_
  rintro e w2 ⟨rfl,hd,ho⟩
  obtain ⟨hB2,hst2⟩:=hA.b.devs hd ho (fdev_upto hu).2
  obtain ⟨hA2,hsA2⟩:=hA.with hB2 hst2
  have hz2:=hz.only hsA2.only hxo
  rcases H.s2 _ _ _ h1 with ⟨k1,k2⟩ | ⟨k1,k2⟩
  ·exact .inl ⟨by rw [k1],at_step (D:=D) (ps:=ps) (J:=J) (g:=g) hX hs hA2 hsA2 ⟨rfl,rfl,pg,k2,hz2⟩⟩
  ·exact .inr ⟨8,by decide,by rw [k1],rfl,P,at_step (D:=D) (ps:=ps) (J:=J) (g:=g) hX hs hA2 hsA2 k2⟩
 refine ⟨fun w h=>h.keeps,he _ (by simp),At w1 T0 (fun q=>q=pgb) sb db pb tb jb mb false P fun D ps J g w=>J=J0∧g=g0+1∧A3 D ps,?_,?_⟩
 ·rintro w hAt
  have hkp:=hAt.keeps
  obtain ⟨D,ps,J,g,F,G,hA,hX,hs,rfl,rfl,pg,h1,hz⟩:=hAt
  obtain ⟨hu,hp1,hp2⟩:=H.u2 _ _ _ h1
  refine (cl_save (hkp.cel hb1 hbo) hz (ssave_any hA H.fit hu (by have:=H.num; omega) H.gen H.seqs hp1 hp2) (fun e w' h=>⟨_,h.1⟩)).mono ?_
  rintro e w2 ⟨rfl,F',G',hA2,hsA2⟩
  rcases H.s3 _ _ _ h1 with ⟨k1,k2⟩ | ⟨k1,k2⟩
  ·rw [show sCode D (g+1) (bodyR pg (ringAt J.at_ J.size J.ahead) (J.seq+J.held))=0 from k1,if_pos rfl] at hA2
   exact .inl ⟨by rw [show sCode D (g+1) (bodyR pg (ringAt J.at_ J.size J.ahead) (J.seq+J.held))=0 from k1],at_step (D:=D) (ps:=ps) (J:=J) (g:=g) hX hs hA2 hsA2 ⟨rfl,rfl,k2⟩⟩
  ·exact .inr ⟨8,by decide,by rw [show sCode D (g+1) (bodyR pg (ringAt J.at_ J.size J.ahead) (J.seq+J.held))=8 from k1],rfl,P,at_step (D:=D) (ps:=ps) (J:=J) (g:=g) hX hs hA2 hsA2 k2⟩
 refine ⟨fun w h=>h.keeps,he _ (by simp),At w1 T0 (fun q=>q=pgb) sb db pb tb jb mb false P fun D ps J g w=>J=J0∧g=g0+1∧∃ ps',ps=settledP ps'∧A3 D ps',?_,?_⟩
 ·rintro w hAt
  have hkp:=hAt.keeps
  obtain ⟨D,ps,J,g,F,G,hA,hX,hs,rfl,rfl,h1⟩:=hAt
  refine (cl_settle (hkp.cel hb1 hbo) hA.b.top rfl (settle_any hA.b.pgs) (fun e w' h=>⟨_,h.1⟩)).mono ?_
  rintro e w2 ⟨rfl,hp,ho⟩
  obtain ⟨hB2,hst2⟩:=hA.b.pags hp ho (by unfold settledP; rw [List.length_map])
  obtain ⟨hA2,hsA2⟩:=hA.with hB2 hst2
  exact .inl ⟨rfl,at_step (D:=D) (ps:=ps) (J:=J) (g:=g0+1) hX hs hA2 hsA2 ⟨rfl,rfl,ps,rfl,h1⟩⟩
 refine ⟨fun w h=>h.keeps,he _ (by simp),At w1 T0 (fun q=>q=pgb) sb db pb tb jb mb false P fun D ps J g w=>J=J0.gone∧g=g0+1∧∃ ps',ps=settledP ps'∧A3 D ps',?_,fun w h=>⟨h.keeps,h⟩⟩
 ·rintro w hAt
  have hkp:=hAt.keeps
  obtain ⟨D,ps,J,g,F,G,hA,hX,hs,rfl,rfl,ps',hps,h1⟩:=hAt
  refine (cl_forget (hkp.cel hb1 hbo) hA.b.top rfl (forget_ok hA.j H.fit H.live) (fun e w' h=>⟨_,h.1⟩)).mono ?_
  rintro e w2 ⟨rfl,ht⟩
  obtain ⟨hA2,hsA2⟩:=hA.turns ht
  exact .inl ⟨rfl,at_step (D:=D) (ps:=ps) (J:=J) (g:=g0+1) hX hs hA2 hsA2 ⟨rfl,rfl,ps',hps,h1⟩⟩
end
end Go.Proofs.YtgkofgifoiinkaaGreat
namespace Go.Proofs.YtgkofgifoiinkaaGreat
open Go.RowKit
def Lv (D:Dv) (ps:List Pg) (J:Jn) (g:Nat) (P:List Pr) (n m:Nat):Prop:=∃ (pg:Int) (a s:Nat) (P0:List Pr) (pgs:List Nat) (C:List (List Wr)),
 Disk D.bk g pg a s P0 pgs C P∧D.on=true∧PgOk ps (D.bk.length-362) pgs∧PS J D (C.map recL) n∧StJ J a s∧g≤m∧s+C.length≤m
section
variable {D D0:Dv} {ps ps0:List Pg} {J J0:Jn} {g g0 n m:Nat} {P:List Pr}
theorem Lv.more (h:Lv D ps J g P n m) {n' m':Nat} (hn:n≤n') (hm:m≤m'):Lv D ps J g P n' m':=by
 obtain ⟨pg,a,s,P0,pgs,C,h1,h2,h3,h4,h5,h6,h7⟩:=h
 exact ⟨pg,a,s,P0,pgs,C,h1,h2,h3,⟨h4.fit,h4.upto.more hn,h4.on,h4.live,h4.clean,h4.holds,h4.spot,h4.held,h4.short⟩,h5,by omega,by omega⟩
theorem Lv.ok (h:Lv D ps J g P n m):okUp P:=let ⟨_,_,_,_,_,_,h1,_⟩:=h; h1.ok
theorem Lv.on (h:Lv D ps J g P n m):D.on=true:=let ⟨_,_,_,_,_,_,_,h2,_⟩:=h; h2
theorem Lv.len (h:Lv D ps J g P n m):442≤D.bk.length∧D.bk.length≤4096:=let ⟨_,_,_,_,_,_,h1,_⟩:=h; ⟨h1.len,h1.most⟩
theorem Lv.fits (h:Lv D ps J g P n m):bytesP P≤roomN D.bk.length:=let ⟨_,_,_,_,_,_,h1,_⟩:=h; h1.fits
theorem roomN_most {k:Nat} (h:k≤4096):roomN k≤375000:=by
 unfold roomN halfN
 split
 ·omega
 ·have:((k-362) / 2*4 / 5-1)≤1492:=by omega
  omega
theorem Lv.few (h:Lv D ps J g P n m):P.length≤100000:=by
 have h1:=len_bytesP P
 have h2:=h.fits
 have h3:=roomN_most h.len.2
 omega
def A1 (D0:Dv) (pgs0:List Nat) (P:List Pr) (n:Nat) (D:Dv) (ps:List Pg) (pg:Int):Prop:=D.on=true∧(D0.left < 0→D.left < 0)∧Upto D (n+4000)∧Apart (Spare pgs0) D0.bk D.bk ∧
 ∃ pgs',Rt (blkOf D 362) (D0.bk.length-362) pg P pgs'∧PgOk (settledP ps) (D0.bk.length-362) pgs'∧pgs'.Nodup∧pgs'.length≤halfN D0.bk.length
def A2 (D0:Dv) (g:Nat) (pg0:Int) (a s:Nat) (P0:List Pr) (pgs0:List Nat) (C:List (List Wr)) (P:List Pr) (n:Nat) (D:Dv) (ps:List Pg) (pg:Int):Prop:=D.on=true∧(D0.left < 0→D.left < 0)∧Upto D (n+4001)∧Apart (Spare pgs0) D0.bk D.bk∧Clean D.bk ∧
 Disk D.bk g pg0 a s P0 pgs0 C P∧∃ pgs',Rt (blkOf D 362) (D.bk.length-362) pg P pgs'∧PgOk (settledP ps) (D.bk.length-362) pgs'∧pgs'.Nodup∧pgs'.length≤halfN D.bk.length
def A3 (D0:Dv) (J0:Jn) (g0:Nat) (C:List (List Wr)) (P:List Pr) (n:Nat) (D:Dv) (ps:List Pg):Prop:=D.on=true∧(D0.left < 0→D.left < 0)∧D.bk.length=D0.bk.length∧PS J0 D (C.map recL) (n+4003) ∧
 ∃ pg pgs',Disk D.bk (g0+1) pg (markA J0) (markS J0) P pgs' [] P∧PgOk (settledP ps) (D.bk.length-362) pgs'
def BadD (D0:Dv) (P P':List Pr) (n m:Nat) (D:Dv):Prop:=¬ D0.left < 0∧D.bk.length=D0.bk.length∧Gone2 D P P' n m
theorem rt_bound {B:Nat→Bytes} {N:Nat} {pg:Int} {prs:List Pr} {pgs:List Nat} (h:Rt B N pg prs pgs) (hN:N≤4096) : -1≤pg∧pg≤4000000:=by
 have h1:=h.lt.2
 unfold rootB at h1
 simp only [Bool.or_eq_true,Bool.and_eq_true,decide_eq_true_eq] at h1
 omega
theorem Lv.phs (h:Lv D0 ps0 J0 g0 P n m) (hn:n≤900000) (hm:m+1≤4000000):∃ pg0 a s P0 pgs0 C,Disk D0.bk g0 pg0 a s P0 pgs0 C P ∧
  Phs D0 ps0 J0 g0 n P (A1 D0 pgs0 P n) (A2 D0 g0 pg0 a s P0 pgs0 C P n) (A3 D0 J0 g0 C P n) (BadD D0 P P (n+4003) (m+1)):=by
 have hok:=h.ok
 have hfew:=h.few
 obtain ⟨pg0,a,s,P0,pgs0,C,hd,ho,hp,hj,⟨j1,j2,j3,j4⟩,hg,hs⟩:=h
 have hlen:=hd.len
 have hmst:=hd.most
 have hhalf:=mostP_room hd.fits hd.half
 have hfree:=hp.free
 have hf2:=hd.few
 have hah:J0.ahead=takenBy (C.map recL):=hj.ahead
 have hmA:markA J0=ringAt a 360 (takenBy (C.map recL)):=by unfold markA; rw [j2,j3,hah]
 have hmS:markS J0=s+C.length:=by unfold markS; rw [j4,hj.held,List.length_map]
 have hpl:=hp.1
 have hhf:2*halfN D0.bk.length≤D0.bk.length-362:=by unfold halfN; omega
 refine ⟨pg0,a,s,P0,pgs0,C,hd, {
  on:=ho
  upto:=hj.upto
  num:=hn
  ok:=hok
  few:=hfew
  free:=by rw [hpl]; omega
  most:=by omega
  fit:=hj.fit
  live:=hj.live
  seqs:=by have:=hmS; unfold markS at this; omega
  gen:=by omega
  s1:=fun i BL root' pgs' h1 h2 h3 h4 h5 h6=>?_
  u1:=fun D ps pg h=>h.2.2.1
  s2:=fun D ps pg h=>?_
  u2:=fun D ps pg h=>?_
  s3:=fun D ps pg h=>?_ }⟩
 ·rw [dropN_length] at h5
  rw [hpl] at h1 h5 h6 ⊢
  have hnd:=(hp.taken h1).1
  rcases disk_built hd ho hj.upto hp h1 h2 h3 h5 with ⟨k1,k2,k3,k4,k5,k6⟩ | ⟨k1,k2,k3⟩
  ·exact .inl ⟨k1,k2,k3,k4.more (by omega),k5,pgs',k6,hp.settles h1 h6,h6.nodup_iff.2 hnd,by rw [h6.length_eq,placeT_length]; omega⟩
  ·exact .inr ⟨k1,k2,(writesP_upto 362 _ hj.upto).2,k3.more (by omega) (by omega)⟩
 ·obtain ⟨k1,k2,k3,k4,pgs',k5,k6,k7,k8⟩:=h
  rcases disk_sure hd k1 k3 k4 k5 with ⟨q1,q2,q3,q4,q5,q6,q7,q8⟩ | ⟨q1,q2,q3⟩
  ·refine .inl ⟨q1,q2,fun hl=>q3 (k2 hl),q4.more (by omega),q5,q6,q7,pgs',q8,?_,k7,?_⟩
   ·rw [q5.len]; exact k6
   ·rw [q5.len]; exact k8
  ·exact .inr ⟨q1,fun hl=>q2 (k2 hl),(fdev_upto k3).2.trans k4.len,q3.more (by omega) (by omega)⟩
 ·obtain ⟨k1,k2,k3,k4,k5,k6,pgs',k7,k8,k9,k10⟩:=h
  exact ⟨k3,rt_bound k7 (Nat.le_trans (Nat.sub_le _ _) k6.most)⟩
 ·obtain ⟨k1,k2,k3,k4,k5,k6,pgs',k7,k8,k9,k10⟩:=h
  rw [hmA,hmS]
  rcases disk_save k6 k1 k3 k7 k9 k10 (by omega) with ⟨q1,q2,q3,q4,q5,q6⟩ | ⟨q1,q2,q3⟩
  ·refine .inl ⟨q1,q2,fun hl=>q3 (k2 hl),q4.len.trans k4.len,?_,pg,pgs',by rw [hmA,hmS]; exact q6,by rw [q4.len]; exact k8⟩
   have hA:Apart (fun i=>Spare pgs0 i∨i < 2) D0.bk (sDev D (g0+1) (bodyR pg (ringAt a 360 (takenBy (C.map recL))) (s+C.length))).bk:=(k4.mono fun i hi=>.inl hi).trans (q4.mono fun i hi=>.inr hi)
   refine hj.move hA (fun i hi hk=>?_) q6.clean q2 (q5.more (by omega))
   rw [j1] at hk
   rcases hk with hk | hk
   ·exact spare_not.2.1 i (by omega) hk
   ·omega
  ·exact .inr ⟨q1,fun hl=>q2 (k2 hl),(sDev_upto k3 _ _).2.trans k4.len,q3.more (by omega) (by omega)⟩
theorem A3.lives {C:List (List Wr)} (h:A3 D0 J0 g0 C P n D ps) (hj:J0.fr=2∧J0.size=360) (hm:g0≤m∧markS J0≤m):Lv D (settledP ps) J0.gone (g0+1) P (n+4003) (m+1):=by
 obtain ⟨k1,k2, -,k3,pg,pgs',k4,k5⟩:=h
 exact ⟨pg,markA J0,markS J0,P,pgs',[],k4,k1,k5,k3.forget,⟨hj.1,hj.2,rfl,rfl⟩,by omega,by simp; omega⟩
end
end Go.Proofs.YtgkofgifoiinkaaGreat
namespace Go.Proofs.YtgkofgifoiinkaaGreat
open Go.RowKit
def Ended (sb:Nat) (Good:World→Prop) (Bad:Int→World→Prop) (e:Ending) (w':World):Prop :=
 (e = .returned (.int .i64 0)∧∃ w1,Good w1∧w'=w1.setCell ⟨sb,7,none⟩ (.bool false))∨∃ c:Int,c≠0∧e = .returned (.int .i64 c)∧∃ w1,Bad c w1∧w'=w1.setCell ⟨sb,7,none⟩ (.bool true)
def HasSt (sb:Nat) (w:World):Prop:=∃ dv pv tv jv g mb bn,StC w sb dv pv tv jv g mb bn false
section
variable {w:World} {sb:Nat} {Good:World→Prop} {Bad:Int→World→Prop} {lv:Value}
set_option maxHeartbeats 1000000 in
theorem send_any (h:Calls Tryz.prog 41 #[lv] w (Ran Good Bad)) (h1:∀ w',Good w'→HasSt sb w') (h2:∀ c w',Bad c w'→HasSt sb w'):Calls Tryz.prog 49 #[ptr sb,lv] w (Ended sb Good Bad):=by
 have HH:=Lib.hid (anZ h1 h2)
 clear h1 h2
 go_enter Tryz.func49,Tryz.ntmps49
 go_wp2_with fail
 refine h.mono ?_
 clear h
 rintro e w1 (⟨rfl,hg⟩ | ⟨c,hc,rfl,hb⟩)
 ·obtain ⟨dv,pv,tv,jv,g,mb,bn,hs⟩:=HH.out.1 w1 hg
  obtain ⟨c0,c1,c2,c3,c4,c5,c6,c7⟩:=hs.cells
  have f7:=hs.frozen 7
  have HG:=Lib.hid hg
  clear hs hg
  go_wp2
  go_ret
  exact .inl ⟨rfl,w1,HG.out,rfl⟩
 ·obtain ⟨dv,pv,tv,jv,g,mb,bn,hs⟩:=HH.out.2 c w1 hb
  obtain ⟨c0,c1,c2,c3,c4,c5,c6,c7⟩:=hs.cells
  have f7:=hs.frozen 7
  have HG:=Lib.hid hb
  have hne:(c != 0)=true:=by simpa using hc
  have HC:=Lib.hid hc
  clear hs hb hc
  go_wp2
  go_ret
  exact .inr ⟨c,HC.out,rfl,w1,HG.out,rfl⟩
end
def StT (w:World) (sb db:Nat) (D:Dv) (dead:Bool) (P:List Pr) (T:Nat→Prop) (A:List Pg→Jn→Nat→Prop):Prop:=∃ pb tb jb mb ps J g F G,StA w sb db pb tb jb mb D ps J g dead P F G∧T=AS sb jb mb F G∧A ps J g
def Sto (w:World) (sb db:Nat) (D:Dv) (P:List Pr) (n m:Nat) (T:Nat→Prop):Prop:=StT w sb db D false P T fun ps J g=>Lv D ps J g P n m
def Ded (w:World) (sb db:Nat) (D:Dv) (T:Nat→Prop):Prop:=∃ P,StT w sb db D true P T fun _ _ _=>True
def LastsC (w:World) (sb db:Nat) (D:Dv) (P P':List Pr) (n m:Nat) (T:Nat→Prop) (e:Ending) (w':World):Prop :=
 (e = .returned (err 0)∧∃ D' T',Sto w' sb db D' P' n m T'∧Step T w w' T'∧(D.left < 0→D'.left < 0)∧D'.bk.length=D.bk.length) ∨
 (e = .returned (err 8)∧∃ D' T',Ded w' sb db D' T'∧Step T w w' T'∧¬ D.left < 0∧Gone2 D' P P' n m∧D'.bk.length=D.bk.length)
theorem At.hasSt {w1 w:World} {T0 X:Nat→Prop} {sb db pb tb jb mb:Nat} {P:List Pr} {A:Dv→List Pg→Jn→Nat→World→Prop} (h:At w1 T0 X sb db pb tb jb mb false P A w):HasSt sb w:=by
 obtain ⟨D,ps,J,g,F,G,h, -⟩:=h
 exact ⟨_,_,_,_,_,_,_,h.b.top⟩
theorem at_dead {w1 w:World} {T0 X:Nat→Prop} {sb db pb tb jb mb:Nat} {dead:Bool} {P:List Pr} {A:Dv→List Pg→Jn→Nat→World→Prop} (h:At w1 T0 X sb db pb tb jb mb dead P A w) (d:Bool) :
  ∃ D ps J g F G,StA (w.setCell ⟨sb,7,none⟩ (.bool d)) sb db pb tb jb mb D ps J g d P F G∧Step T0 w1 (w.setCell ⟨sb,7,none⟩ (.bool d)) (fun q=>AS sb jb mb F G q∨X q)∧A D ps J g w:=by
 obtain ⟨D,ps,J,g,F,G,hA,hX,hs,h4⟩:=h
 obtain ⟨hB2,hs2⟩:=hA.b.set (g':=g) (jv':=ptr jb) (dead':=d) 7 (.bool d) (hA.b.top.setDead d)
 obtain ⟨hA2,hs3⟩:=hA.with hB2 hs2
 exact ⟨D,ps,J,g,F,G,hA2,hs.trans ⟨hs3.only.mono fun q _ hq=>.inl hq,fun q hq=>.inl hq⟩,h4⟩
theorem run_saving {w1:World} {sb db pb tb jb mb b1 pgb g n:Nat} {P:List Pr} {D:Dv} {ps:List Pg} {J:Jn} {F G:Nat→Prop} {A1 A2:Dv→List Pg→Int→Prop} {A3:Dv→List Pg→Prop} {Bad:Dv→Prop} {lv:Value} (hA:StA w1 sb db pb tb jb mb D ps J g false P F G) (H:Phs D ps J g n P A1 A2 A3 Bad)
  (hrd:Rd kdFn w1 (fun q=>AS sb jb mb F G q∨q=pgb) lv (savL b1 pgb)) (hb1:Cel w1 b1 [ptr sb] 31) (hpb:Cel w1 pgb [.int .i64 0] 3) (hbo:¬ AS sb jb mb F G b1) (hpo:¬ AS sb jb mb F G pgb) (hne:b1≠pgb) :
  Calls Tryz.prog 41 #[lv] w1 (Ran (At w1 (fun q=>AS sb jb mb F G q∨q=pgb) (fun q=>q=pgb) sb db pb tb jb mb false P fun D' ps' J' g' _=>J'=J.gone∧g'=g+1∧∃ ps2,ps'=settledP ps2∧A3 D' ps2)
   (BadW w1 (fun q=>AS sb jb mb F G q∨q=pgb) (fun q=>q=pgb) sb db pb tb jb mb false Bad)) :=
 srun_chain (chain_saving H hb1 (fun hq=>hq.elim hbo hne) (.inr rfl)) ⟨D,ps,J,g,F,G,hA,fun q e=>by subst e; exact ⟨hpo,hpb.lt⟩,Step.refl _ _,rfl,rfl,rfl,rfl,0,hpb⟩ (fun _ hk=>hk.rd hrd) (by show 5≤1000; decide)
section
variable {w:World} {sb db n m:Nat} {D:Dv} {P:List Pr} {T:Nat→Prop}
set_option maxHeartbeats 1000000 in
theorem scheck_any (h:Sto w sb db D P n m T) (hn:n≤900000) (hm:m+1≤4000000):Calls Tryz.prog 16 #[ptr sb] w (LastsC w sb db D P P (n+4003) (m+1) T):=by
 obtain ⟨pb,tb,jb,mb,ps,J,g,F,G,hA,rfl,hL⟩:=h
 obtain ⟨pg0,a,s,P0,pgs0,C,hd,H⟩:=hL.phs hn hm
 have hr:=sready_any hA.b.top
 rw [if_neg (by decide)] at hr
 have SA:=saving_any sb w (S:=AS sb jb mb F G) hA.lt
 have HH:=Lib.hid (anZ hA (anZ hL (anZ hd H)))
 clear hA hL hd H
 go_enter Tryz.func16,Tryz.ntmps16
 go_wp2_with fail
 refine hr.mono ?_
 rintro e w1 ⟨rfl,rfl⟩
 clear hr
 go_wp2_with fail
 refine SA.mono ?_
 rintro e w1 ⟨lv,b1,pgb,rfl,hrd,hb1,hpb,hl1,hl2,hne,hbel, -, -⟩
 clear SA
 obtain ⟨hA,hL,hd,H⟩:=HH.out
 have hA1:=hA.below hbel
 have hlt:=hA.lt
 have hbo:¬ AS sb jb mb F G b1:=fun hq=>by have:=hlt _ hq; omega
 have hpo:¬ AS sb jb mb F G pgb:=fun hq=>by have:=hlt _ hq; omega
 have RUN:=run_saving hA1 H hrd hb1 hpb hbo hpo hne
 have EN:=send_any (sb:=sb) RUN (fun _ h=>h.hasSt) (fun _ _ h=>let ⟨_,h⟩:=h.2; h.hasSt)
 obtain ⟨la,lc,rfl, -⟩:=hrd.shape
 have HB:=Lib.hid (anZ hbel (anZ hl2 hpb.lt))
 clear RUN hrd hb1 hpb hl1 hl2 hne hbel hA hL hd H hA1 hlt hbo hpo
 go_wp2_with fail
 refine EN.mono ?_
 clear EN
 rintro e w2 hE
 have hst0:Step (AS sb jb mb F G) w w1 (fun q=>AS sb jb mb F G q∨q=pgb):=⟨Only.of_below HB.out.1 _,fun q hq=>hq.elim .inl fun (e:q=pgb)=>.inr (by rw [e]; exact HB.out.2.1)⟩
 rcases hE with ⟨rfl,w3,hG,rfl⟩ | ⟨c,hc,rfl,w3,⟨rfl,P2,hB⟩,rfl⟩
 ·obtain ⟨D',ps',J',g',F',G',hA',hs',rfl,rfl,ps2,rfl,h3⟩:=at_dead hG false
  obtain ⟨hA,hL,hd,H⟩:=HH.out
  have hlv:Lv D' (settledP ps2) J.gone (g+1) P (n+4003) (m+1):=by
   obtain ⟨_,_,_,_,_,C',k1,k2,k3,k4,⟨k5,k6,_,k8⟩,k9,k10⟩:=hL
   refine h3.lives ⟨k5,k6⟩ ⟨k9,?_⟩
   unfold markS
   rw [k8,k4.held,List.length_map]
   exact k10
  have HE:=Lib.hid (show Sto _ sb db D' P (n+4003) (m+1) (AS sb jb mb F' G') from ⟨_,_,_,_,_,_,_,_,_,hA',rfl,hlv⟩)
  have HF:=Lib.hid (show Step (AS sb jb mb F G) w _ (AS sb jb mb F' G') from (hst0.trans hs').weak fun q hq=>.inl hq)
  have H3:=Lib.hid (anZ h3.2.1 h3.2.2.1)
  clear hA' hs' h3 hA hL hd H hlv hst0 hG
  go_wp2
  go_ret
  exact .inl ⟨rfl,D',_,HE.out,HF.out,H3.out⟩
 ·obtain ⟨D',ps',J',g',F',G',hA',hs',h3⟩:=at_dead hB true
  have HE:=Lib.hid (show Ded _ sb db D' (AS sb jb mb F' G') from ⟨P2,_,_,_,_,_,_,_,_,_,hA',rfl,trivial⟩)
  have HF:=Lib.hid (show Step (AS sb jb mb F G) w _ (AS sb jb mb F' G') from (hst0.trans hs').weak fun q hq=>.inl hq)
  have H3:=Lib.hid h3
  clear hA' hs' h3 hst0 hB hc
  go_wp2
  go_ret
  exact .inr ⟨rfl,D',_,HE.out,HF.out,H3.out.1,H3.out.2.2,H3.out.2.1⟩
end
end Go.Proofs.YtgkofgifoiinkaaGreat
