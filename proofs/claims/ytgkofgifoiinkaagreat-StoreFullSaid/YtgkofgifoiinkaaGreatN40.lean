/- run over the steps of New; condition: the device is on, is not armed, and great enough. -/
import Derived.Test.YtgkofgifoiinkaaGreatN38
import Derived.Test.YtgkofgifoiinkaaGreatN39
import Derived.Test.YtgkofgifoiinkaaGreatN35
import Derived.Test.YtgkofgifoiinkaaGreatN34
import Derived.Test.YtgkofgifoiinkaaGreatN30
namespace Go.Proofs.YtgkofgifoiinkaaGreat
open Go.RowKit
section
variable {w:World} {sb b1 rb:Nat} {R:Ending→World→Prop} {pg:Int} {a s:Nat}
set_option maxHeartbeats 1000000 in
theorem cl_load {c:Int} (hb:Cel w b1 [ptr sb] 31) {Q:World→Prop} (h:Calls Tryz.prog 61 #[ptr sb] w fun e w'=>e = .returned (.tuple #[rootV3 pg a s, .int .i64 c])∧Q w') (hq:∀ w',Q w'→Cel w' rb [.int .i64 0, .int .i64 0, .int .u64 0] 80) :
  Calls Tryz.prog 60 #[ptr b1,ptr rb] w fun e w2=>e = .returned (.int .i64 c)∧∃ w',Q w'∧w2=((w'.setCell ⟨rb,0,none⟩ (.int .i64 pg)).setCell ⟨rb,1,none⟩ (.int .i64 (a:Int))).setCell ⟨rb,2,none⟩ (.int .u64 (s:Int)):=by
 have c0:w.cell? ⟨b1,0,none⟩=some (ptr sb):=hb.cell 0
 have HP:=Lib.hid hq
 clear hq hb
 go_enter Tryz.func60,Tryz.ntmps60
 go_wp2_with fail
 refine h.mono ?_
 rintro e w1 ⟨rfl,hQ⟩
 clear h c0
 have hz:=HP.out w1 hQ
 have p0:w1.cell? ⟨rb,0,none⟩=some (.int .i64 0):=hz.cell 0
 have p1:w1.cell? ⟨rb,1,none⟩=some (.int .i64 0):=hz.cell 1
 have p2:w1.cell? ⟨rb,2,none⟩=some (.int .u64 0):=hz.cell 2
 have f0:=hz.frozen 0
 have f1:=hz.frozen 1
 have f2:=hz.frozen 2
 have HQ:=Lib.hid hQ
 clear hQ hz
 go_wp2
 go_ret
 exact ⟨rfl,w1,HQ.out,rfl⟩
theorem cl_gather (hb:Cel w b1 [ptr sb] 31) (hr:Cel w rb [.int .i64 pg, .int .i64 (a:Int), .int .u64 (s:Int)] 80) (h:Calls Tryz.prog 63 #[ptr sb, .int .i64 pg] w R) (hR:One R):Calls Tryz.prog 62 #[ptr b1,ptr rb] w R:=by
 have c0:w.cell? ⟨b1,0,none⟩=some (ptr sb):=hb.cell 0
 have p0:w.cell? ⟨rb,0,none⟩=some (.int .i64 pg):=hr.cell 0
 clear hb hr
 go_enter Tryz.func62,Tryz.ntmps62
 go_wp2_with fail
 refine h.mono ?_
 intro e w1 hQ
 obtain ⟨c,rfl⟩:=hR e w1 hQ
 have HQ:=Lib.hid hQ
 clear h c0 p0 hR hQ
 go_wp2
 exact HQ.out
theorem cl_replay (hb:Cel w b1 [ptr sb] 31) (hr:Cel w rb [.int .i64 pg, .int .i64 (a:Int), .int .u64 (s:Int)] 80) (h:Calls Tryz.prog 39 #[ptr sb,rootV3 pg a s] w R) (hR:One R):Calls Tryz.prog 64 #[ptr b1,ptr rb] w R:=by
 have c0:w.cell? ⟨b1,0,none⟩=some (ptr sb):=hb.cell 0
 have p0:w.cell? ⟨rb,0,none⟩=some (.int .i64 pg):=hr.cell 0
 have p1:w.cell? ⟨rb,1,none⟩=some (.int .i64 (a:Int)):=hr.cell 1
 have p2:w.cell? ⟨rb,2,none⟩=some (.int .u64 (s:Int)):=hr.cell 2
 clear hb hr
 go_enter Tryz.func64,Tryz.ntmps64
 go_wp2_with fail
 refine h.mono ?_
 intro e w1 hQ
 obtain ⟨c,rfl⟩:=hR e w1 hQ
 have HQ:=Lib.hid hQ
 clear h c0 p0 p1 p2 hR hQ
 go_wp2
 exact HQ.out
end
def opnL (b1 rb:Nat):List Fv:=[⟨60, #[ptr b1,ptr rb]⟩,⟨62, #[ptr b1,ptr rb]⟩,⟨64, #[ptr b1,ptr rb]⟩]
theorem disk_load {D:Dv} {g:Nat} {pg:Int} {a s:Nat} {P0:List Pr} {pgs:List Nat} {C:List (List Wr)} {P:List Pr} (h:Disk D.bk g pg a s P0 pgs C P) (ho:D.on=true):loadV D=(g,bodyR pg a s,0):=by
 obtain ⟨b0,b1,k0,k1,k2⟩:=h.root
 unfold Still at k0 k1
 exact k2.load ho (by have:=h.len; omega) ((stAt_of k0).trans rfl) ((stAt_of k1).trans rfl)
section
variable {w1:World} {sb db pb tb mb b1 rb g a s n:Nat} {pg:Int} {D:Dv} {P0 P:List Pr} {pgs:List Nat} {C:List (List Wr)} {F G:Nat→Prop}
def OpenAt (w1:World) (sb db pb tb mb rb:Nat) (D:Dv) (g:Nat) (P:List Pr) (C:List (List Wr)) (pgs:List Nat) (a s n:Nat) (F G:Nat→Prop) (w:World):Prop:=∃ jb ps J,StA w sb db pb tb jb mb D ps J g false P F G∧PgOk ps (D.bk.length-362) pgs∧PS J D (C.map recL) n∧StJ J a s∧w1.heap.size≤jb ∧
 Step (fun q=>BS sb mb F G q∨q=rb) w1 w (fun q=>AS sb jb mb F G q∨q=rb)
theorem run_open (hd:Disk D.bk g pg a s P0 pgs C P) (ho:D.on=true) (hu:Upto D n) (h:StB w1 sb db pb tb mb (.pointer none) D (freshP (D.bk.length-362)) 0 false [] F G) (hb1:Cel w1 b1 [ptr sb] 31) (hrb:Cel w1 rb [.int .i64 0, .int .i64 0, .int .u64 0] 80)
  (hbo:¬ BS sb mb F G b1) (hro:¬ BS sb mb F G rb) (hne:b1≠rb) {lv:Value} (hrow:Rd kdFn w1 (fun q=>BS sb mb F G q∨q=rb) lv (opnL b1 rb)) :
  Calls Tryz.prog 41 #[lv] w1 (Ran (OpenAt w1 sb db pb tb mb rb D g P C pgs a s n F G) fun _ _=>False):=by
 have hlen:=hd.len
 have hmost:=hd.most
 have hrl:=hrb.lt
 have htr:tb≠rb:=fun e=>by
  subst e
  have h5:=(Cel.inj h.tree hrb).2
  revert h5
  decide
 have hb1o:¬ (BS sb mb F G b1∨b1=rb):=fun hq=>hq.elim hbo hne
 have hP0:P0.length≤100000:=by
  have h1:=len_bytesP P0
  have h2:=hd.fits0
  have h3:=roomN_most hmost
  omega
 have hC:C.length≤360:=by
  have h1:=takenBy_recs C
  have h2:=hd.ring.room
  omega
 refine srun_chain (Keep:=Keeps w1 (fun q=>BS sb mb F G q∨q=rb)) (A:=fun w=>w=w1) (l:=opnL b1 rb) ?_ rfl (fun _ hk=>hk.rd hrow) (by show 3≤1000; decide)
 refine ⟨fun w e=>(by obtain rfl:w=w1:=e; exact ⟨_,Step.refl _ _⟩),enters_of Tryz.func60 (by kernel_rfl) rfl,fun w=>StB w sb db pb tb mb (.pointer none) D (freshP (D.bk.length-362)) g false [] F G∧Cel w rb [.int .i64 pg, .int .i64 (a:Int), .int .u64 (s:Int)] 80∧Step (fun q=>BS sb mb F G q∨q=rb) w1 w (fun q=>BS sb mb F G q∨q=rb),?_,?_⟩
 ·rintro w rfl
  have hbd:=rt_bound hd.tree (Nat.le_trans (Nat.sub_le _ _) hmost)
  have hat:a≤4096:=by have:=hd.ring.atl; omega
  have LD:=sload_ok h (disk_load hd ho) hbd.1 hbd.2 hat (by have:=hd.seqs.2; omega)
  refine (cl_load hb1 (Q:=fun w'=>StB w' sb db pb tb mb (.pointer none) D (freshP (D.bk.length-362)) g false [] F G∧Step (BS sb mb F G) w w' (BS sb mb F G)) LD (fun w' hq=>hrb.only hq.2.only hro)).mono ?_
  rintro e w2 ⟨rfl,w',⟨hB,hst⟩,rfl⟩
  have hr':=hrb.only hst.only hro
  have ho5:Only (fun q=>q=rb) w' (((w'.setCell ⟨rb,0,none⟩ (.int .i64 pg)).setCell ⟨rb,1,none⟩ (.int .i64 (a:Int))).setCell ⟨rb,2,none⟩ (.int .u64 (s:Int))) :=
   (((Only.refl (fun q=>q=rb) w').setCell (p:=⟨rb,0,none⟩) (.inl rfl) _).setCell (p:=⟨rb,1,none⟩) (.inl rfl) _).setCell (p:=⟨rb,2,none⟩) (.inl rfl) _
  refine .inl ⟨rfl,hB.only ho5 htr fun q hq e=>hro (e ▸ hq),((hr'.set 0 (.int .i64 pg)).set 1 (.int .i64 (a:Int))).set 2 (.int .u64 (s:Int)),⟨Only.trans (hst.only.mono fun q _ hq=>.inl hq) (ho5.mono fun q _ hq=>.inr hq),fun q hq=>.inl hq⟩⟩
 refine ⟨fun w h=>⟨_,h.2.2⟩,enters_of Tryz.func62 (by kernel_rfl) rfl,fun w=>(∃ ps,StB w sb db pb tb mb (.pointer none) D ps g false P0 F G∧PgOk ps (D.bk.length-362) pgs)∧Cel w rb [.int .i64 pg, .int .i64 (a:Int), .int .u64 (s:Int)] 80∧Step (fun q=>BS sb mb F G q∨q=rb) w1 w (fun q=>BS sb mb F G q∨q=rb),?_,?_⟩
 ·rintro w ⟨hB,hr,hst⟩
  have hcb:=hb1.only hst.only hb1o
  have GT:=sgather_any hB ho (by have:=hd.tree; exact this.congr fun q _=>rfl) hd.nd (by have:=hd.few; unfold halfN at this; omega) hd.ok0 hP0
  refine (cl_gather hcb hr GT (fun e w' h=>⟨_,h.1⟩)).mono ?_
  rintro e w2 ⟨rfl,ps',hB2,hpg,hs2⟩
  exact .inl ⟨rfl,⟨ps',hB2,hpg⟩,hr.only hs2.only hro,hst.trans ⟨hs2.only.mono fun q _ hq=>.inl hq,fun q hq=>.inl hq⟩⟩
 refine ⟨fun w h=>⟨_,h.2.2⟩,enters_of Tryz.func64 (by kernel_rfl) rfl,OpenAt w1 sb db pb tb mb rb D g P C pgs a s n F G,?_,fun w h=>⟨let ⟨_,_,_,_,_,_,_,_,h⟩:=h; ⟨_,h⟩,h⟩⟩
 ·rintro w ⟨⟨ps',hB,hpg⟩,hr,hst⟩
  have hcb:=hb1.only hst.only hb1o
  have RP:=sreplay_any (pg:=pg) hB ho hd.clean hu hd.ring ⟨hd.seqs.1,by have:=hd.seqs.2; omega⟩ (by have:=hd.ring.atl; omega) hd.coms hd.ok0 hP0 hC
  refine (cl_replay hcb hr RP (fun e w' h=>⟨_,h.1⟩)).mono ?_
  rintro e w2 ⟨rfl,jb,J,hA,hps,hj,hlow,hs2⟩
  rw [← hd.now] at hA
  refine .inl ⟨rfl,jb,ps',J,hA,hpg,hps,hj,Nat.le_trans hst.size hlow,⟨Only.trans hst.only (hs2.only.mono fun q _ hq=>.inl hq),fun q hq=>?_⟩⟩
  rcases hq with (hq | hq) | hq
  ·exact .inl (.inl hq)
  ·exact .inr (by rw [hq]; exact Nat.le_trans hst.size hlow)
  ·exact .inl (.inr hq)
end
end Go.Proofs.YtgkofgifoiinkaaGreat
namespace Go.Proofs.YtgkofgifoiinkaaGreat
open Go.RowKit
section
variable {w:World} {db n m g':Nat} {D:Dv} {P:List Pr} {F:Nat→Prop} {l:Bytes} {c:Int}
def OpensS (w:World) (db:Nat) (D:Dv) (P:List Pr) (n m:Nat) (F:Nat→Prop) (e:Ending) (w':World):Prop:=∃ sb T,e = .returned (.tuple #[ptr sb,err 0])∧Sto w' sb db D P n m T∧Step F w w' T
set_option maxHeartbeats 2000000 in
theorem stopen_any (h:Dev w db D F) (ho:D.on=true) (hu:Upto D n) (hod:OnDisk D.bk P m):Calls Tryz.prog 19 #[ptr db] w (OpensS w db D P n m F):=by
 obtain ⟨g,pg,a,s,P0,pgs,C,hd,hg,hs⟩:=hod
 have OV:=sover_any h ho hd.len
 have HH:=Lib.hid (anZ h (anZ ho (anZ hu (anZ hd (anZ hg hs)))))
 clear h ho hu hd hg hs
 go_enter Tryz.func19,Tryz.ntmps19
 go_wp2_with fail
 refine OV.mono ?_
 rintro e w1 ⟨sb,pb,tb,mb,G,rfl,hB,⟨l1,l2,l3,l4⟩,hb1⟩
 clear OV
 obtain ⟨w2,hw2⟩:∃ w2,w2=(w1.alloc (.cells #[ptr sb] 31)).alloc (.cells #[.int .i64 0, .int .i64 0, .int .u64 0] 80):=⟨_,rfl⟩
 have hb2:Below w1.heap.size w1 w2:=by rw [hw2]; exact ((Below.refl _ _).alloc (Nat.le_refl _) _).alloc (by simp) _
 have hbx:Cel w2 w1.heap.size [ptr sb] 31:=by rw [hw2]; exact (Cel.new w1 #[ptr sb] 31).alloc _
 have hrb:Cel w2 (w1.heap.size+1) [.int .i64 0, .int .i64 0, .int .u64 0] 80:=by
  rw [hw2]
  have h3:=Cel.new (w1.alloc (.cells #[ptr sb] 31)) #[.int .i64 0, .int .i64 0, .int .u64 0] 80
  have e3:(w1.alloc (.cells #[ptr sb] 31)).heap.size=w1.heap.size+1:=by simp
  rw [e3] at h3
  exact h3
 have hsz2:w2.heap.size=w1.heap.size+2:=by rw [hw2]; simp
 have hB2:=hB.below hb2
 have hout:∀ q,w1.heap.size≤q→¬ BS sb mb F G q:=fun q hq hs=>by have:=hB.lt q hs; omega
 have hS2:∀ q,(BS sb mb F G q∨q=w1.heap.size+1)→q < w2.heap.size:=fun q hq=>by
  rcases hq with hq | hq
  ·have:=hB.lt q hq; omega
  ·omega
 have hlit:=rd_lit kdFn w2 46 (fun q=>BS sb mb F G q∨q=w1.heap.size+1) hS2 (opnL w1.heap.size (w1.heap.size+1)) ((opnL w1.heap.size (w1.heap.size+1)).map Fv.v).toArray rfl (fun _ _=>trivial) (show 3≤1000 by decide) (n:=3) rfl
 rw [hsz2] at hlit
 obtain ⟨w3,hw3⟩:∃ w3,w3=w2.alloc (.cells ((opnL w1.heap.size (w1.heap.size+1)).map Fv.v).toArray 46):=⟨_,rfl⟩
 rw [← hw3] at hlit
 have hb3:Below w2.heap.size w2 w3:=by rw [hw3]; exact (Below.refl _ _).alloc (Nat.le_refl _) _
 obtain ⟨hdv,ho,hu,hd,hg,hs⟩:=HH.out
 have RUN:=run_open hd ho hu (hB2.below hb3) (hbx.below hb3 hbx.lt) (hrb.below hb3 hrb.lt) (hout _ (Nat.le_refl _)) (hout _ (by omega)) (show w1.heap.size≠w1.heap.size+1 by omega) hlit
 have HA:=Lib.hid (anZ hb1 (anZ (show Below w1.heap.size w1 ((w1.alloc (.cells #[ptr sb] 31)).alloc (.cells #[.int .i64 0, .int .i64 0, .int .u64 0] 80) |>.alloc (.cells ((opnL w1.heap.size (w1.heap.size+1)).map Fv.v).toArray 46)) by rw [← hw2, ← hw3]; exact hb2.trans (hb3.mono hb2.size)) (anZ l1 (anZ l2 (anZ l3 l4)))))
 have hbx3:=hbx.below hb3 hbx.lt
 rw [hw3,hw2] at hbx3
 have HC:=Lib.hid (anZ hbx3 (anZ (hout w1.heap.size (Nat.le_refl _)) (anZ hg (anZ hs hd))))
 rw [hw3,hw2] at RUN
 clear hB l1 l2 l3 l4 hb1 hb2 hbx hrb hB2 hout hS2 hlit hb3 hdv ho hu hd hg hs hw2 hw3 hsz2 hbx3
 go_wp2_with fail
 refine RUN.mono ?_
 clear RUN
 rintro e w4 (⟨rfl,jb,ps,J,hA,hpg,hps,hj,hlow,hst⟩ | ⟨c, -, -,hF⟩)
 case inr=>exact hF.elim
 obtain ⟨hb1,hb23,l1,l2,l3,l4⟩:=HA.out
 have hs1:=hb1.size
 have hs3:=hb23.size
 have hTn:∀ q,AS sb jb mb F G q→F q∨w.heap.size≤q:=fun q hq=>by
  rcases hq with (e | e | hq | hq) | e
  ·exact .inr (by omega)
  ·exact .inr (by omega)
  ·exact .inl hq
  ·exact .inr (l4 q hq)
  ·exact .inr (by omega)
 have hcb:Cel w4 w1.heap.size [ptr sb] 31:=HC.out.1.only hst.only fun hq=>hq.elim HC.out.2.1 (by omega)
 have hO:Only F w w4:=(Only.of_below (hb1.trans (hb23.mono hs1)) F).then hst.only fun q hq=>by
  rcases hq with hq | e
  ·exact hTn q (.inl hq)
  ·exact .inr (by omega)
 have hlv:Lv D ps J g P n m:=⟨pg,a,s,P0,pgs,C,HC.out.2.2.2.2,HH.out.2.1,hpg,hps,hj,HC.out.2.2.1,HC.out.2.2.2.1⟩
 have HE:=Lib.hid (anZ (show Sto w4 sb db D P n m (AS sb jb mb F G) from ⟨_,_,_,_,_,_,_,_,_,hA,rfl,hlv⟩) (show Step F w w4 (AS sb jb mb F G) from ⟨hO,hTn⟩))
 have c0:w4.cell? ⟨w1.heap.size,0,none⟩=some (ptr sb):=hcb.cell 0
 clear hb1 hb23 l1 l2 l3 l4 hs1 hs3 hTn hcb hO hlv hA hpg hps hj hlow hst
 go_wp2
 go_ret2
 exact ⟨sb,_,rfl,HE.out⟩
end
end Go.Proofs.YtgkofgifoiinkaaGreat
namespace Go.Proofs.YtgkofgifoiinkaaGreat
open Go.RowKit
structure Blank (D:Dv) (n:Nat):Prop where
 on:D.on=true
 left:D.left < 0
 upto:Upto D n
 clean:Clean D.bk
 len:442≤D.bk.length
 most:D.bk.length≤4096
 wiped:∀ i,i < 362→Still D.bk i noughts
section
variable {D D1 D2 D3:Dv} {n m:Nat} {J:Jn}
theorem blank_of {k1 k2:Nat} (h1:Wiped D k1 1 n D1) (h2:Wiped D1 k2 1 (n+2) D2) (h3:Wiped D2 2 360 (n+4) D3) (hk:k1 < 2∧k2 < 2∧k1≠k2) (hl:442≤D.bk.length) (hm:D.bk.length≤4096):Blank D3 (n+365) where
 on:=h3.on
 left:=h3.left
 upto:=h3.upto.more (by omega)
 clean:=h3.clean
 len:=by rw [h3.apart.len,h2.apart.len,h1.apart.len]; exact hl
 most:=by rw [h3.apart.len,h2.apart.len,h1.apart.len]; exact hm
 wiped i hi:=by
  by_cases hr:2≤i
  ·exact h3.wiped i hr (by omega)
  ·refine h3.apart.still i _ (by omega) ?_
   by_cases e:i=k2
   ·exact h2.wiped i (by omega) (by omega)
   ·exact h2.apart.still i _ (by omega) (h1.wiped i (by omega) (by omega))
theorem Blank.ring (h:Blank D n):Holds 2 360 0 1 D.bk []:=by
 refine Holds.fresh (fun i x hi hx c hc=>?_) (by have:=h.len; omega) (by decide) (by decide) (by decide)
 have h1:=h.wiped (2+i) (by omega)
 unfold Still at h1
 rw [hx] at h1
 cases h1
 rcases hc with hc | hc
 ·rw [hc]; exact foreign_noughts
 ·cases hc
theorem Blank.sure (h:Blank D n):fcode D=0∧Blank (fdev D) (n+1)∧(fdev D).bk.length=D.bk.length:=by
 have h1:¬ D.on=false:=by rw [h.on]; simp
 have h3:=h.left
 have hd:fdev D=⟨flushed D.bk,D.on,spent D.left⟩:=by unfold fdev; rw [if_neg h1,if_neg (by omega)]
 have hup:=fdev_upto h.upto
 refine ⟨by unfold fcode; rw [if_neg h1,if_neg (by omega)],?_,hup.2⟩
 have hl:=hup.2
 have hu:=hup.1
 rw [hd] at hl hu ⊢
 refine ⟨h.on,?_,hu,clean_flushed _,by rw [hl]; exact h.len,by rw [hl]; exact h.most,fun i hi=>(apart_flushed (K:=fun _=>False) D.bk).still i _ (fun h=>h) (h.wiped i hi)⟩
 show spent D.left < 0
 unfold spent
 split <;> omega
theorem Blank.saved (h:Blank D n) {pg:Int} (ht:Rt (blkOf D 362) (D.bk.length-362) pg [] []) (hp:PS J D [] n) (hj:StJ J 0 1):sCode D 1 (bodyR pg 0 1)=0∧(sDev D 1 (bodyR pg 0 1)).left < 0∧(sDev D 1 (bodyR pg 0 1)).bk.length=D.bk.length ∧
  PS J (sDev D 1 (bodyR pg 0 1)) [] (n+2)∧Disk (sDev D 1 (bodyR pg 0 1)).bk 1 pg 0 1 [] [] [] []:=by
 have hbl:=bodyR_length pg 0 1
 generalize hB:bodyR pg 0 1=B at *
 have h2:2≤D.bk.length:=by have:=h.len; omega
 have hlf:=h.left
 obtain ⟨e1,e2⟩:=save_ok (D:=D) (g:=1) (l:=B) (by decide) h.on ⟨by omega,by omega⟩ h2 (by omega)
 have hup:=sDev_upto h.upto 1 B
 rw [e2] at hup ⊢
 have hA:Apart (fun i=>i=1) D.bk (flushed (wrote D.bk 1 (sealG 1 B))):=(apart_wrote D.bk 1 (sealG 1 B)).trans (apart_flushed _)
 have hcl:Clean (flushed (wrote D.bk 1 (sealG 1 B))):=clean_flushed _
 have hs1:Still (flushed (wrote D.bk 1 (sealG 1 B))) 1 (sealG 1 B):=by
  have h1:(wrote D.bk 1 (sealG 1 B))[1]? = some ⟨D.bk[1].sure,D.bk[1].loose++[sealG 1 B]⟩:=by
   rw [wrote_get,if_pos rfl,List.getElem?_eq_getElem (by omega)]
   rfl
  unfold Still
  rw [flushed_at h1]
  simp [Bk.stands]
 refine ⟨e1,?_,hup.2,?_,?_⟩
 ·show spent (spent D.left) < 0
  have e:∀ z:Int,z < 0→spent z < 0:=fun z hz=>by unfold spent; split <;> omega
  exact e _ (e _ hlf)
 ·refine hp.move (K:=fun i=>i=1) hA (fun i hi hk=>?_) hcl rfl hup.1
  have:=hj.1
  omega
 ·refine {
   clean:=hcl
   len:=by rw [hA.len]; exact h.len
   most:=by rw [hA.len]; exact h.most
   root:=⟨noughts,sealG 1 B,hA.still 0 _ (by decide) (h.wiped 0 (by decide)),hs1,by decide,by rw [hB]; omega, .inr ⟨rfl,by rw [hB],by rw [rootOf_noughts]; decide⟩⟩
   ring:=?_
   tree:=?_
   nd:=List.nodup_nil
   few:=Nat.zero_le _
   coms:=fun l hl=>by cases hl
   now:=rfl
   ok0:=⟨(fun p hp=>by cases hp),List.Pairwise.nil⟩
   fits0:=Nat.zero_le _
   fits:=Nat.zero_le _
   gens:=by decide
   seqs:=⟨by decide,by decide⟩ }
  ·refine Holds.fresh (fun i x hi hx c hc=>?_) (by rw [hA.len]; have:=h.len; omega) (by decide) (by decide) (by decide)
   have h1:=hA.still (2+i) _ (by omega) (h.wiped (2+i) (by omega))
   unfold Still at h1
   rw [hx] at h1
   cases h1
   rcases hc with hc | hc
   ·rw [hc]; exact foreign_noughts
   ·cases hc
  ·rw [hA.len]
   exact ht.congr fun q hq=>by cases hq
end
section
variable {D0:Dv} {n m:Nat} {J0:Jn}
theorem fresh_ok (N:Nat):PgOk (freshP N) N []:=⟨freshP_length N,fun k hk=>by simp [freshP,hk]⟩
def B1 (D0:Dv) (n:Nat) (J0:Jn) (D:Dv) (ps:List Pg) (pg:Int):Prop:=Blank D (n+1)∧D.bk.length=D0.bk.length∧PS J0 D [] (n+1)∧PgOk (settledP ps) (D0.bk.length-362) []∧Rt (blkOf D 362) (D.bk.length-362) pg [] []
def B3 (D0:Dv) (n:Nat) (J0:Jn) (D:Dv) (ps:List Pg):Prop:=D.left < 0∧D.on=true∧D.bk.length=D0.bk.length∧PS J0 D [] (n+4)∧PgOk (settledP ps) (D0.bk.length-362) []∧∃ pg,Disk D.bk 1 pg 0 1 [] [] [] []
theorem blank_phs (h:Blank D0 n) (hn:n≤800000) (hp:PS J0 D0 [] n) (hj:StJ J0 0 1):Phs D0 (freshP (D0.bk.length-362)) J0 0 n [] (B1 D0 n J0) (B1 D0 (n+1) J0) (B3 D0 n J0) (fun _=>False):=by
 have hmA:markA J0=0:=by unfold markA; rw [hj.2.1,hj.2.2.1,hp.ahead]; rfl
 have hmS:markS J0=1:=by unfold markS; rw [hj.2.2.2,hp.held]; rfl
 have hm0:mostP []=0:=rfl
 refine {
  on:=h.on
  upto:=h.upto
  num:=by omega
  ok:=⟨(fun p hp=>by cases hp),List.Pairwise.nil⟩
  few:=Nat.zero_le _
  free:=by rw [hm0]; exact Nat.zero_le _
  most:=by rw [hm0]; exact Nat.zero_le _
  fit:=hp.fit
  live:=hp.live
  seqs:=by have:=hmS; unfold markS at this; omega
  gen:=by decide
  s1:=fun i BL root' pgs' h1 h2 h3 h4 h5 h6=>?_
  u1:=fun D ps pg h=>h.1.upto.more (by omega)
  s2:=fun D ps pg h=>?_
  u2:=fun D ps pg h=>⟨h.1.upto.more (by omega),rt_bound h.2.2.2.2 (Nat.le_trans (Nat.sub_le _ _) h.1.most)⟩
  s3:=fun D ps pg h=>?_ }
 ·rw [hm0] at h4
  obtain rfl:i=0:=by omega
  have hb:BL=[]:=List.eq_nil_of_length_eq_zero h2
  subst hb
  have hpg:pgs'=[]:=List.Perm.eq_nil h6
  subst hpg
  have hz:(placeT (dropN (freshP (D0.bk.length-362)) (freshP (D0.bk.length-362)).length) 0).zip ([]:List Bytes)=[]:=rfl
  rw [hz] at h5 ⊢
  rw [dropN_length,freshP_length] at h5
  refine .inl ⟨rfl,⟨h.on,h.left,h.upto.more (by omega),h.clean,h.len,h.most,h.wiped⟩,rfl,⟨hp.fit,hp.upto.more (by omega),hp.on,hp.live,hp.clean,hp.holds,hp.spot,hp.held,hp.short⟩,?_,h5⟩
  have h7:=(fresh_ok (D0.bk.length-362)).settles (i:=0) (pgs':=[]) (fun j hj=>by omega) (List.Perm.refl _)
  rw [freshP_length]
  exact h7
 ·obtain ⟨k1,k2,k3,k4,k5⟩:=h
  obtain ⟨q1,q2,q3⟩:=k1.sure
  have hA:Apart (fun _=>False) D.bk (fdev D).bk:=apart_fdev D
  refine .inl ⟨q1,q2,q3.trans k2,?_,k4,?_⟩
  ·exact k3.move hA (fun i hi h=>h) q2.clean q2.on q2.upto
  ·rw [q3]
   exact k5.congr fun q hq=>by cases hq
 ·obtain ⟨k1,k2,k3,k4,k5⟩:=h
  rw [hmA,hmS]
  obtain ⟨q1,q2,q3,q4,q5⟩:=k1.saved k5 k3 hj
  refine .inl ⟨q1,q2,q4.on,q3.trans k2,?_,k4,pg,q5⟩
  exact ⟨q4.fit,q4.upto.more (by omega),q4.on,q4.live,q4.clean,q4.holds,q4.spot,q4.held,q4.short⟩
theorem B3.lives {D:Dv} {ps:List Pg} (h:B3 D0 n J0 D ps) (hj:StJ J0 0 1) (hp:J0.held=0∧J0.ahead=0) (hm:1≤m):Lv D (settledP ps) J0.gone 1 [] (n+4) m:=by
 obtain ⟨k1,k2,k3,k4,k5,pg,k6⟩:=h
 refine ⟨pg,0,1,[],[],[],k6,k2,by rw [k3]; exact k5,k4.forget,⟨hj.1,hj.2.1,?_,?_⟩,hm,by simpa using hm⟩
 ·show ringAt J0.at_ J0.size J0.ahead=0
  rw [hj.2.1,hj.2.2.1,hp.2]; rfl
 ·show J0.seq+J0.held=1
  rw [hj.2.2.2,hp.1]
end
end Go.Proofs.YtgkofgifoiinkaaGreat
namespace Go.Proofs.YtgkofgifoiinkaaGreat
open Go.RowKit
section
variable {w:World} {sb b1 gb gen:Nat} {R:Ending→World→Prop}
set_option maxRecDepth 100000 in
set_option maxHeartbeats 1000000 in
theorem cl_wipe1 (hb:Cel w b1 [ptr sb] 31) (hg:Cel w gb [.int .u64 (gen:Int)] 73) (hgen:gen≤4611686018427387904) (h:Calls Tryz.prog 34 #[ptr sb, .int .i64 (((gen+1) % 2:Nat):Int), .int .i64 1] w.drew R) (hR:One R)
  (hK:∀ e w',R e w'→w'.heap[b1]? = w.heap[b1]? ∧ w'.heap[gb]? = w.heap[gb]?):Calls Tryz.prog 33 #[ptr b1,ptr gb] w R:=by
 have HX:=Lib.hid (fun (W:World) (hW:W.heap[b1]? = w.heap[b1]? ∧ W.heap[gb]? = w.heap[gb]?)=>anZ ((hb.kept hW.1).cell 0) ((hg.kept hW.2).cell 0))
 have HR:=Lib.hid (anZ hR hK)
 have HC:=Lib.hid h
 have TU:=sturn_any (gen+1) w.drew
 have hgn:(((gen+1:Nat):Int))=(gen:Int)+1:=by omega
 rw [hgn] at TU
 clear hb hg h hR hK hgn
 go_enter Tryz.func33,Tryz.ntmps33
 go_upto_region 1 with fail
 refine region_till 99 (fun W=>W.heap[b1]? = w.heap[b1]? ∧ W.heap[gb]? = w.heap[gb]?) (by kernel_rfl) ⟨rfl,rfl⟩ (fun hS=>?_)
 refine tkZ (i:=0) 3 (ptr sb) rfl rfl (by kernel_rfl) (fun _ _ _ h=>h) (by rfl) (fun W hW=>?_) hS ?_
 ·obtain ⟨c0,c1⟩:=HX.out W hW
  clear hW
  go_simp
 simp only [Act.put,sAZ,sBZ,sCZ]
 refine tkZ (i:=1) 4 (.int .u64 (gen:Int)) rfl rfl (by kernel_rfl) (fun _ _ _ h=>h) (by rfl) (fun W hW=>?_) hS ?_
 ·obtain ⟨c0,c1⟩:=HX.out W hW
  clear hW
  go_simp
 simp only [Act.put,sAZ,sBZ,sCZ]
 refine tkZ (i:=2) 5 (.int .u64 ((gen:Int)+1)) rfl rfl (by kernel_rfl) (fun _ _ _ h=>h) (by rfl) (fun W hW=>?_) hS ?_
 ·obtain ⟨c0,c1⟩:=HX.out W hW
  clear hW
  go_simp
  exact IntWalk.u64_in _ (by omega)
 simp only [Act.put,sAZ,sBZ,sCZ]
 refine next_till 3 (by kernel_rfl) rfl (fun K hK=>?_)
 go_simp
 refine TU.mono ?_
 rintro e w1 ⟨rfl,rfl⟩
 clear TU
 obtain ⟨k,hk⟩:∃ k,k=(gen+1) % 2:=⟨_,rfl⟩
 rw [← hk] at HC
 rw [← hk]
 clear hk
 go_simp
 refine hK.out _ _ (fun _=>hS) ?_
 clear hK K
 refine next_till 4 (by kernel_rfl) rfl (fun K hK=>?_)
 go_simp
 refine HC.out.mono ?_
 intro e w1 hQ
 obtain ⟨c,rfl⟩:=HR.out.1 e w1 hQ
 have S2:=HR.out.2 _ w1 hQ
 have HQ:=Lib.hid hQ
 clear hQ hS
 have hS:=S2
 go_simp
 refine hK.out _ _ (fun _=>S2) ?_
 clear hK K S2
 refine tkZ (i:=5) 2 (.int .i64 c) rfl rfl (by kernel_rfl) (fun _ _ _ h=>h) (by rfl) (fun W hW=>?_) hS ?_
 ·clear HX
  clear hW
  go_simp
 simp only [Act.put,sAZ,sBZ,sCZ]
 refine done_till (by kernel_rfl) ?_ _
 clear hS
 go_wp2
 exact HQ.out
set_option maxRecDepth 100000 in
set_option maxHeartbeats 1000000 in
theorem cl_wipe2 (hb:Cel w b1 [ptr sb] 31) (hg:Cel w gb [.int .u64 (gen:Int)] 73) (h:Calls Tryz.prog 34 #[ptr sb, .int .i64 ((gen % 2:Nat):Int), .int .i64 1] w.drew R) (hR:One R)
  (hK:∀ e w',R e w'→w'.heap[b1]? = w.heap[b1]? ∧ w'.heap[gb]? = w.heap[gb]?):Calls Tryz.prog 36 #[ptr b1,ptr gb] w R:=by
 have HX:=Lib.hid (fun (W:World) (hW:W.heap[b1]? = w.heap[b1]? ∧ W.heap[gb]? = w.heap[gb]?)=>anZ ((hb.kept hW.1).cell 0) ((hg.kept hW.2).cell 0))
 have HR:=Lib.hid (anZ hR hK)
 have HC:=Lib.hid h
 have TU:=sturn_any gen w.drew
 clear hb hg h hR hK
 go_enter Tryz.func36,Tryz.ntmps36
 go_upto_region 1 with fail
 refine region_till 99 (fun W=>W.heap[b1]? = w.heap[b1]? ∧ W.heap[gb]? = w.heap[gb]?) (by kernel_rfl) ⟨rfl,rfl⟩ (fun hS=>?_)
 refine tkZ (i:=0) 3 (ptr sb) rfl rfl (by kernel_rfl) (fun _ _ _ h=>h) (by rfl) (fun W hW=>?_) hS ?_
 ·obtain ⟨c0,c1⟩:=HX.out W hW
  clear hW
  go_simp
 simp only [Act.put,sAZ,sBZ,sCZ]
 refine tkZ (i:=1) 4 (.int .u64 (gen:Int)) rfl rfl (by kernel_rfl) (fun _ _ _ h=>h) (by rfl) (fun W hW=>?_) hS ?_
 ·obtain ⟨c0,c1⟩:=HX.out W hW
  clear hW
  go_simp
 simp only [Act.put,sAZ,sBZ,sCZ]
 refine next_till 2 (by kernel_rfl) rfl (fun K hK=>?_)
 go_simp
 refine TU.mono ?_
 rintro e w1 ⟨rfl,rfl⟩
 clear TU
 obtain ⟨k,hk⟩:∃ k,k=gen % 2:=⟨_,rfl⟩
 rw [← hk] at HC
 rw [← hk]
 clear hk
 go_simp
 refine hK.out _ _ (fun _=>hS) ?_
 clear hK K
 refine next_till 3 (by kernel_rfl) rfl (fun K hK=>?_)
 go_simp
 refine HC.out.mono ?_
 intro e w1 hQ
 obtain ⟨c,rfl⟩:=HR.out.1 e w1 hQ
 have S2:=HR.out.2 _ w1 hQ
 have HQ:=Lib.hid hQ
 clear hQ hS
 have hS:=S2
 go_simp
 refine hK.out _ _ (fun _=>S2) ?_
 clear hK K S2
 refine tkZ (i:=4) 2 (.int .i64 c) rfl rfl (by kernel_rfl) (fun _ _ _ h=>h) (by rfl) (fun W hW=>?_) hS ?_
 ·clear HX
  clear hW
  go_simp
 simp only [Act.put,sAZ,sBZ,sCZ]
 refine done_till (by kernel_rfl) ?_ _
 clear hS
 go_wp2
 exact HQ.out
theorem cl_wipe3 (hb:Cel w b1 [ptr sb] 31) (h:Calls Tryz.prog 34 #[ptr sb, .int .i64 2, .int .i64 360] w R) (hR:One R):Calls Tryz.prog 37 #[ptr b1] w R:=by
 have c0:w.cell? ⟨b1,0,none⟩=some (ptr sb):=hb.cell 0
 clear hb
 go_enter Tryz.func37,Tryz.ntmps37
 go_wp2_with fail
 refine h.mono ?_
 intro e w1 hQ
 obtain ⟨c,rfl⟩:=hR e w1 hQ
 have HQ:=Lib.hid hQ
 clear h c0 hR hQ
 go_wp2
 exact HQ.out
theorem cl_first (hb:Cel w b1 [ptr sb] 31) (h:Calls Tryz.prog 39 #[ptr sb,rootV3 (-1) 0 1] w R) (hR:One R):Calls Tryz.prog 38 #[ptr b1] w R:=by
 have c0:w.cell? ⟨b1,0,none⟩=some (ptr sb):=hb.cell 0
 clear hb
 go_enter Tryz.func38,Tryz.ntmps38
 go_wp2_with fail
 refine Calls.mono (show Calls Tryz.prog 39 #[ptr sb,rootV3 (-1) 0 1] w R from h) ?_
 intro e w1 hQ
 obtain ⟨c,rfl⟩:=hR e w1 hQ
 have HQ:=Lib.hid hQ
 clear h c0 hR hQ
 go_wp2
 exact HQ.out
end
def newL (b1 gb:Nat):List Fv:=[⟨33, #[ptr b1,ptr gb]⟩,⟨36, #[ptr b1,ptr gb]⟩,⟨37, #[ptr b1]⟩,⟨38, #[ptr b1]⟩]
end Go.Proofs.YtgkofgifoiinkaaGreat
namespace Go.Proofs.YtgkofgifoiinkaaGreat
open Go.RowKit
theorem ro_fn {e:TypeId} {w:World} {S T:Nat→Prop} {v:Value} {l:List Fv} (h:Ro kdFn e w S v l) (hT:∀ q,v.ownBlock=some q→¬ T q):Rd kdFn w T v l:=by
 obtain ⟨ts,h1,h2,_,_⟩:=h
 exact ⟨ts,h1,Rw.of_own h2,fun _ _=>trivial,fun _ q hq=>hT q hq⟩
theorem fn_cells:∀ l:List Fv,l.map Fv.v=kdFn.cells l
 | []=>rfl
 | a::r=>congrArg (a.v :: ·) (fn_cells r)
theorem fn_append (W:World) {tv:Value} {L0 L1:List Fv} {T:Nat→Prop} (h:Ro kdFn 46 W (fun q=>tv.ownBlock=some q) tv L0) (hT:∀ q,tv.ownBlock=some q→¬ T q) (hTl:∀ q,T q→q < W.heap.size) {cs:Array Value} (hcs:cs=(L1.map Fv.v).toArray) (hn:L0.length≤1000) (hm:L1.length≤1000) {k:Nat} (hk:k=L1.length) (ty:TypeId) :
  ∃ ua uc un w6,un=(L0++L1).length∧(Builtin.append_ #[82,82] ty #[tv, .slice (some ⟨W.heap.size,0,none⟩) k k]).run Tryz.prog (W.alloc (.cells cs 46)) = .ok (.slice ua un uc) w6 ∧
   Rd kdFn w6 T (.slice ua un uc) (L0++L1)∧Only (fun q=>tv.ownBlock=some q) W w6:=by
 have hS:∀ q,tv.ownBlock=some q→q < W.heap.size:=fun q hq=>h.own hq
 have hb:Below W.heap.size W (W.alloc (.cells cs 46)):=(Below.refl _ _).alloc (Nat.le_refl _) _
 have hlit:=rd_lit kdFn W 46 (fun q=>tv.ownBlock=some q) hS L1 cs (by rw [hcs,fn_cells]) (fun _ _=>trivial) hm hk
 have e1:L1.map kdFn.con=L1:=List.map_id' L1
 rw [e1] at hlit
 obtain ⟨v',w6,hrun,ro6,st6,gr6,lo6⟩:=run_append_ro fn_ty ty (h.below hb) hlit (by omega)
 obtain ⟨ua,uc,rfl,_⟩:=ro6.shape
 refine ⟨ua,uc,_,w6,rfl,hrun,ro_fn ro6 fun q hq hqt=>?_,(Only.of_below hb _).trans st6.only⟩
 rcases lo6 with e | e
 ·exact hT q (e ▸ hq) hqt
 ·rw [e] at hq
  cases hq
  have:=hTl _ hqt
  have h9:(W.alloc (.cells cs 46)).heap.size=W.heap.size+1:=by simp
  omega
end Go.Proofs.YtgkofgifoiinkaaGreat
namespace Go.Proofs.YtgkofgifoiinkaaGreat
open Go.RowKit
section
variable {Keep:World→Prop} {Bad Bad':Int→World→Prop}
theorem Chain.weak (hb:∀ c w,Bad c w→Bad' c w):∀ {l:List Fv} {A B B':World→Prop},Chain Keep Bad l A B→(∀ w,B w→B' w)→Chain Keep Bad' l A B'
 | [],A,B,B',h,hB=>fun w hA=>⟨(h w hA).1,hB w (h w hA).2⟩
 | x::r,A,B,B',h,hB=>⟨h.1,h.2.1,let ⟨M,h1,h2⟩:=h.2.2; ⟨M,fun w hA=>(h1 w hA).mono fun e w' hr=>hr.imp id fun ⟨c,k1,k2,k3⟩=>⟨c,k1,k2,hb c w' k3⟩,h2.weak hb hB⟩⟩
theorem Chain.ex {ι:Type}:∀ {l:List Fv} {A:ι→World→Prop} {B:World→Prop},(∀ x∈l,Enters x.f)→(∀ i,Chain Keep Bad l (A i) B)→Chain Keep Bad l (fun w=>∃ i,A i w) B
 | [],A,B,_,h=>fun w ⟨i,hA⟩=>h i w hA
 | x::r,A,B,he,h=>⟨fun w ⟨i,hA⟩=>(h i).1 w hA,he x List.mem_cons_self,fun w=>∃ i,Classical.choose (h i).2.2 w,fun w ⟨i,hA⟩=>((Classical.choose_spec (h i).2.2).1 w hA).mono fun e w' hr=>hr.imp (fun ⟨k1,k2⟩=>⟨k1,i,k2⟩) id,
  Chain.ex (fun y hy=>he y (List.mem_cons_of_mem _ hy)) fun i=>(Classical.choose_spec (h i).2.2).2⟩
end
def NewAt (w1:World) (T0 X:Nat→Prop) (sb db pb tb mb:Nat) (D:Dv) (n:Nat) (w:World):Prop:=∃ (jb:Nat) (D':Dv) (ps:List Pg) (J:Jn) (g:Nat) (F' G':Nat→Prop),StA w sb db pb tb jb mb D' ps J g false [] F' G'∧Lv D' ps J g [] (n+400) 1∧D'.left < 0∧D'.bk.length=D.bk.length ∧
 Step T0 w1 w (fun q=>AS sb jb mb F' G' q∨X q)
theorem newL_enters (b1 gb:Nat):∀ x∈newL b1 gb,Enters x.f:=by
 intro x hx
 simp only [newL,List.mem_cons,List.not_mem_nil,or_false] at hx
 rcases hx with rfl | rfl | rfl | rfl
 ·exact enters_of Tryz.func33 (by kernel_rfl) rfl
 ·exact enters_of Tryz.func36 (by kernel_rfl) rfl
 ·exact enters_of Tryz.func37 (by kernel_rfl) rfl
 ·exact enters_of Tryz.func38 (by kernel_rfl) rfl
section
variable {w1:World} {sb db pb tb mb b1 gb bs pgb gen n:Nat} {D:Dv} {F G:Nat→Prop}
theorem run_new (h:StB w1 sb db pb tb mb (.pointer none) D (freshP (D.bk.length-362)) 0 false [] F G) (ho:D.on=true) (hlf:D.left < 0) (hu:Upto D n) (hn:n≤700000) (hlen:442≤D.bk.length) (hgen:gen≤4611686018427387904)
  (hb1:Cel w1 b1 [ptr sb] 31) (hg:Cel w1 gb [.int .u64 (gen:Int)] 73) (hbs:Cel w1 bs [ptr sb] 31) (hpb:Cel w1 pgb [.int .i64 0] 3)
  (hb1o:¬ (BS sb mb F G b1∨b1=pgb)) (hgo:¬ (BS sb mb F G gb∨gb=pgb)) (hbso:¬ (BS sb mb F G bs∨bs=pgb)) (hpo:¬ BS sb mb F G pgb) {lv:Value} (hrow:Rd kdFn w1 (fun q=>BS sb mb F G q∨q=pgb) lv (newL b1 gb++savL bs pgb)) :
  Calls Tryz.prog 41 #[lv] w1 (Ran (NewAt w1 (fun q=>BS sb mb F G q∨q=pgb) (fun q=>q=pgb) sb db pb tb mb D n) fun _ _=>False):=by
 have hmost:=h.dev.bks.2
 have wiped:∀ {w w':World} {F1 F2:Nat→Prop},Step (fun q=>BS sb mb F G q∨q=pgb) w1 w (fun q=>BS sb mb F1 G q∨q=pgb)→Step (BS sb mb F1 G) w w' (BS sb mb F2 G) →
   Step (fun q=>BS sb mb F G q∨q=pgb) w1 w' (fun q=>BS sb mb F2 G q∨q=pgb):=fun hs hs'=>hs.trans ⟨hs'.only.mono fun q _ hq=>.inl hq,fun q hq=>hq.elim (fun hq=>(hs'.more q hq).imp .inl id) fun e=>.inl (.inr e)⟩
 have kept:∀ {w w':World} {F1 F2:Nat→Prop} {q:Nat} {cs:List Value} {t:TypeId},Cel w1 q cs t→¬ (BS sb mb F G q∨q=pgb)→Step (fun q=>BS sb mb F G q∨q=pgb) w1 w (fun q=>BS sb mb F1 G q∨q=pgb)→Step (BS sb mb F1 G) w.drew w' (BS sb mb F2 G)→w'.heap[q]? = w.heap[q]?:=fun {w w' F1 F2 q cs t} hc hq hs hs'=>by
  have hcw:=hc.only hs.only hq
  refine hs'.only.block q hcw.lt fun hb=>?_
  rcases hs.more q (.inl hb) with h1 | h1
  ·exact hq h1
  ·have:=hc.lt; omega
 have np:∀ {w w':World} {F1 F2:Nat→Prop},(¬ BS sb mb F1 G pgb∧Cel w pgb [.int .i64 0] 3)→Step (BS sb mb F1 G) w w' (BS sb mb F2 G)→¬ BS sb mb F2 G pgb∧Cel w' pgb [.int .i64 0] 3:=fun h hs=>⟨fun hb=>by
  rcases hs.more _ hb with h1 | h1
  ·exact h.1 h1
  ·have:=h.2.lt; omega,h.2.only hs.only h.1⟩
 refine srun_chain (Keep:=Keeps w1 (fun q=>BS sb mb F G q∨q=pgb)) (A:=fun w=>w=w1) (l:=newL b1 gb++savL bs pgb) ?_ rfl (fun _ hk=>hk.rd hrow) (by show 9≤1000; decide)
 have hen:=newL_enters b1 gb
 refine Chain.append (l:=newL b1 gb) (M:=fun w=>∃ i:{i:Nat × Dv × Jn // Blank i.2.1 (n+365)∧i.2.1.bk.length=D.bk.length∧PS i.2.2 i.2.1 [] (n+365)∧StJ i.2.2 0 1},
   At w1 (fun q=>BS sb mb F G q∨q=pgb) (fun q=>q=pgb) sb db pb tb i.1.1 mb false [] (fun D' ps J g w=>D'=i.1.2.1∧ps=freshP (i.1.2.1.bk.length-362)∧J=i.1.2.2∧g=0∧∃ z,Cel w pgb [.int .i64 z] 3) w) ?_ ?_
 ·unfold newL at hen ⊢
  refine ⟨fun w e=>(by obtain rfl:w=w1:=e; exact ⟨_,Step.refl _ _⟩),hen _ (by simp),fun w=>∃ D1 F1,StB w sb db pb tb mb (.pointer none) D1 (freshP (D.bk.length-362)) 0 false [] F1 G∧Wiped D ((gen+1) % 2) 1 n D1∧(¬ BS sb mb F1 G pgb∧Cel w pgb [.int .i64 0] 3)∧Step (fun q=>BS sb mb F G q∨q=pgb) w1 w (fun q=>BS sb mb F1 G q∨q=pgb),?_,?_⟩
  ·intro w e
   obtain rfl:w=w1:=e
   have WP:=swipe_any (h.drewN 1) ho hlf hu (fr:=(gen+1) % 2) (n:=1) (by omega) (by omega)
   have hs0:=Step.refl (fun q=>BS sb mb F G q∨q=pgb) w
   refine (cl_wipe1 hb1 hg hgen WP (fun e w' h=>⟨_,h.1⟩) (fun e w' h=>?_)).mono ?_
   ·obtain ⟨-,D',F', -, -,hst⟩:=h
    exact ⟨kept hb1 hb1o hs0 hst,kept hg hgo hs0 hst⟩
   ·rintro e w2 ⟨rfl,D',F',hB,hW,hst⟩
    exact .inl ⟨rfl,D',F',hB,hW,np (w:=w.drew) ⟨hpo,hpb⟩ hst,wiped hs0.drew hst⟩
  refine ⟨fun w ⟨_,_,_,_,_,h⟩=>⟨_,h⟩,hen _ (by simp),fun w=>∃ D1 D2 F2,StB w sb db pb tb mb (.pointer none) D2 (freshP (D.bk.length-362)) 0 false [] F2 G∧Wiped D ((gen+1) % 2) 1 n D1∧Wiped D1 (gen % 2) 1 (n+2) D2∧(¬ BS sb mb F2 G pgb∧Cel w pgb [.int .i64 0] 3)∧Step (fun q=>BS sb mb F G q∨q=pgb) w1 w (fun q=>BS sb mb F2 G q∨q=pgb),?_,?_⟩
  ·rintro w ⟨D1,F1,hB,hW,hpc,hs⟩
   have WP:=swipe_any (hB.drewN 1) hW.on hW.left hW.upto (fr:=gen % 2) (n:=1) (by omega) (by rw [hW.apart.len]; omega)
   refine (cl_wipe2 (hb1.only hs.only hb1o) (hg.only hs.only hgo) WP (fun e w' h=>⟨_,h.1⟩) (fun e w' h=>?_)).mono ?_
   ·obtain ⟨-,D',F', -, -,hst⟩:=h
    exact ⟨kept hb1 hb1o hs hst,kept hg hgo hs hst⟩
   ·rintro e w2 ⟨rfl,D',F',hB',hW',hst⟩
    exact .inl ⟨rfl,D1,D',F',hB',hW,hW',np (w:=w.drew) hpc hst,wiped hs.drew hst⟩
  refine ⟨fun w ⟨_,_,_,_,_,_,_,h⟩=>⟨_,h⟩,hen _ (by simp),fun w=>∃ D3 F3,StB w sb db pb tb mb (.pointer none) D3 (freshP (D.bk.length-362)) 0 false [] F3 G∧Blank D3 (n+365)∧D3.bk.length=D.bk.length∧(¬ BS sb mb F3 G pgb∧Cel w pgb [.int .i64 0] 3)∧Step (fun q=>BS sb mb F G q∨q=pgb) w1 w (fun q=>BS sb mb F3 G q∨q=pgb),?_,?_⟩
  ·rintro w ⟨D1,D2,F2,hB,hW1,hW2,hpc,hs⟩
   have hl2:D2.bk.length=D.bk.length:=hW2.apart.len.trans hW1.apart.len
   have WP:=swipe_any hB hW2.on hW2.left hW2.upto (fr:=2) (n:=360) (by omega) (by omega)
   refine (cl_wipe3 (hb1.only hs.only hb1o) WP (fun e w' h=>⟨_,h.1⟩)).mono ?_
   rintro e w2 ⟨rfl,D',F',hB',hW',hst⟩
   exact .inl ⟨rfl,D',F',hB',blank_of hW1 hW2 hW' ⟨by omega,by omega,by omega⟩ hlen hmost,hW'.apart.len.trans hl2,np hpc hst,wiped hs hst⟩
  refine ⟨fun w ⟨_,_,_,_,_,_,h⟩=>⟨_,h⟩,hen _ (by simp),_,?_,fun w hw=>⟨let ⟨_,hA⟩:=hw; hA.keeps,hw⟩⟩
  ·rintro w ⟨D3,F3,hB,hbl,hl3,hpc,hs⟩
   have RP:=sreplay_any (pg := -1) (a:=0) (s:=1) (C:=[]) hB hbl.on hbl.clean hbl.upto hbl.ring ⟨by decide,by decide⟩ (by decide) (fun l hl=>by cases hl) ⟨(fun p hp=>by cases hp),List.Pairwise.nil⟩ (Nat.zero_le _) (Nat.zero_le _)
   refine (cl_first (hb1.only hs.only hb1o) RP (fun e w' h=>⟨_,h.1⟩)).mono ?_
   rintro e w2 ⟨rfl,jb,J,hA,hps,hj,hlow,hst⟩
   refine .inl ⟨rfl,⟨⟨jb,D3,J⟩,hbl,hl3,hps,hj⟩,D3,_,J,0,F3,G,hA,fun q e=>?_,hs.trans ⟨hst.only.mono fun q _ hq=>.inl hq,fun q hq=>hq.elim (fun hq=>(hst.more q hq).imp .inl id) fun e=>.inl (.inr e)⟩,rfl,by rw [show ((⟨jb,D3,J⟩:Nat × Dv × Jn).2.1.bk.length)=D.bk.length from hl3],rfl,rfl,0,hpc.2.only hst.only hpc.1⟩
   subst e
   refine ⟨fun ha=>?_,Nat.lt_of_lt_of_le hpc.2.lt hst.size⟩
   rcases hst.more _ ha with h1 | h1
   ·exact hpc.1 h1
   ·have:=hpc.2.lt; omega
 ·refine Chain.ex (savL_enters _ _) fun i=>?_
  obtain ⟨⟨jb,D3,J⟩,hbl,hl3,hps,hj⟩:=i
  simp only at hbl hl3 hps hj
  have hC:=chain_saving (T0:=fun q=>BS sb mb F G q∨q=pgb) (sb:=sb) (db:=db) (pb:=pb) (tb:=tb) (jb:=jb) (mb:=mb) (blank_phs hbl (by omega) hps hj) hbs hbso (.inr rfl)
  refine hC.weak (fun c w hb=>?_) fun w hA=>?_
  ·obtain ⟨-,P',D',ps',J',g',F',G', -, -, -,hF⟩:=hb
   exact hF
  ·obtain ⟨D',ps',J',g',F',G',hA',hX,hst,rfl,rfl,ps2,rfl,h3⟩:=hA
   exact ⟨jb,D',_,_,_,F',G',hA',(h3.lives (m:=1) hj ⟨hps.held,by rw [hps.ahead]; rfl⟩ (Nat.le_refl _)).more (by omega) (Nat.le_refl _),h3.1,h3.2.2.1.trans hl3,hst⟩
end
end Go.Proofs.YtgkofgifoiinkaaGreat
