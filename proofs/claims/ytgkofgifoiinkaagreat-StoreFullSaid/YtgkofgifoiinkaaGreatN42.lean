/- A device that a statement has made, with what must last beside it: each call of the device and of package shadow, as it answers; condition: fewer than a million things are loose in each block. -/
import Derived.Test.YtgkofgifoiinkaaGreatN41
import Derived.Test.YtgkofgifoiinkaaGreatN31
import Derived.Test.YtgkofgifoiinkaaGreatN40
import Derived.BigQuiet
import Derived.Deep.CutBlock
import Derived.Test.YtgkofgifoiinkaaGreatN32
import Derived.Test.YtgkofgifoiinkaaGreatN30
import Derived.Test.YtgkofgifoiinkaaGreatN08
import Derived.Test.YtgkofgifoiinkaaGreatN11
import Derived.Test.YtgkofgifoiinkaaGreatN33
import Derived.Test.YtgkofgifoiinkaaGreatN34
import Derived.Test.YtgkofgifoiinkaaGreatN20
namespace Go.Proofs.YtgkofgifoiinkaaGreat
open Go.RowKit
def Commits (w:World) (sb db:Nat) (D:Dv) (P:List Pr) (l:List Wr) (n m:Nat) (T:Nat→Prop) (e:Ending) (w':World):Prop :=
 (1000 < l.length∧e = .returned (err 6)∧Below w.heap.size w w') ∨
 (l.length≤1000∧¬ ComOk l∧e = .returned (err 1)∧Below w.heap.size w w') ∨
 (l.length≤1000∧ComOk l∧roomN D.bk.length < bytesP (doneC P l)∧e = .returned (err 7)∧Below w.heap.size w w') ∨
 (l.length≤1000∧ComOk l∧bytesP (doneC P l)≤roomN D.bk.length∧LastsC w sb db D P (doneC P l) n m T e w')
section
variable {w:World} {sb db n m:Nat} {D:Dv} {P:List Pr} {T:Nat→Prop} {lv:Value} {l:List Wr}
set_option maxRecDepth 100000 in
set_option maxHeartbeats 4000000 in
theorem scommit_any (h:Sto w sb db D P n m T) (hn:n≤900000) (hm:m+2≤4000000) (hl:Rd kdWr w T lv l) (hln:l.length≤1000000):Calls Tryz.prog 13 #[ptr sb,lv] w (Commits w sb db D P l (n+4500) (m+2) T):=by
 obtain ⟨pb,tb,jb,mb,ps,J,g,F,G,hA,rfl,hL⟩:=h
 obtain ⟨la,lc,rfl, -⟩:=hl.shape
 obtain ⟨ln,hlen⟩:∃ ln,ln=l.length:=⟨_,rfl⟩
 rw [← hlen] at hl
 rw [← hlen]
 obtain ⟨w1,hw1⟩:∃ w1,w1=(w.alloc (.cells #[ptr sb] 31)).alloc (.cells #[.slice la ln lc] 39):=⟨_,rfl⟩
 have hbel:Below w.heap.size w w1:=by rw [hw1]; exact ((Below.refl _ _).alloc (Nat.le_refl _) _).alloc (by simp) _
 have hb1:Cel w1 w.heap.size [ptr sb] 31:=by rw [hw1]; exact (Cel.new w #[ptr sb] 31).alloc _
 have hlb:Cel w1 (w.heap.size+1) [.slice la ln lc] 39:=by
  rw [hw1]
  have h3:=Cel.new (w.alloc (.cells #[ptr sb] 31)) #[.slice la ln lc] 39
  have e3:(w.alloc (.cells #[ptr sb] 31)).heap.size=w.heap.size+1:=by simp
  rw [e3] at h3
  exact h3
 have hA1:=hA.below hbel
 have hr:=sready_any hA1.b.top
 rw [if_neg (by decide)] at hr
 have hl1:=hl.step (Step.of_below hbel (AS sb jb mb F G))
 have c1:w1.cell? ⟨w.heap.size,0,none⟩=some (ptr sb):=hb1.cell 0
 have c2:w1.cell? ⟨w.heap.size+1,0,none⟩=some (.slice la ln lc):=hlb.cell 0
 have HH:=Lib.hid (anZ hA (anZ hL (anZ hA1 (anZ hl1 (anZ hbel (anZ hb1 (anZ hlb (anZ hlen (anZ hn hm)))))))))
 have MC:=mayCommit_any hl1 (by omega)
 have HW:=Lib.hid hw1.symm
 clear hA hL hA1 hl1 hbel hb1 hlb hn hm hl hlen hw1
 go_enter Tryz.func13,Tryz.ntmps13
 go_wp2_with fail
 rw [HW.out]
 refine hr.mono ?_
 rintro e wr ⟨rfl,rfl⟩
 clear hr
 by_cases h1:1000 < ln
 ·have h1i:(1000:Int) < (ln:Int):=by omega
  have HA:=Lib.hid (anZ (show 1000 < l.length by rw [← HH.out.2.2.2.2.2.2.2.1]; exact h1) HH.out.2.2.2.2.1)
  clear h1 MC
  go_wp2
  go_ret
  exact .inl ⟨HA.out.1,rfl,HA.out.2⟩
 have h1i:¬ (1000:Int) < (ln:Int):=by omega
 go_wp2_with fail
 refine MC.mono ?_
 rintro e w2 ⟨rfl,hb2⟩
 clear MC c1 c2
 by_cases hco:ComOk l
 case neg =>
  rw [decide_eq_false hco]
  have HA:=Lib.hid (anZ hco (anZ (show l.length≤1000 by rw [← HH.out.2.2.2.2.2.2.2.1]; omega) (HH.out.2.2.2.2.1.trans (hb2.mono HH.out.2.2.2.2.1.size))))
  clear hco hb2 h1
  go_wp2
  go_ret
  exact .inr (.inl ⟨HA.out.2.1,HA.out.1,rfl,HA.out.2.2⟩)
 rw [decide_eq_true hco]
 have HB:=Lib.hid (anZ hb2 (anZ hco (show l.length≤1000 by rw [← HH.out.2.2.2.2.2.2.2.1]; omega)))
 clear hb2 hco h1 h1i
 go_upto_region 8 with fail
 obtain ⟨dn,hdn⟩:∃ dn,dn=bytesP (doneC P l):=⟨_,rfl⟩
 obtain ⟨rn,hrn⟩:∃ rn,rn=roomN D.bk.length:=⟨_,rfl⟩
 have HN:=Lib.hid (anZ hdn hrn)
 clear hdn hrn
 go_cut [33] from 19 to 33 (fun t33 wx=>t33 = .bool (decide (rn < dn))∧Below w2.heap.size w2 wx)
 case first =>
  obtain ⟨hA,hL,hA1,hl1,hbel,hb1,hlb,hlen,hn,hm⟩:=HH.out
  obtain ⟨hb2,hco,h1000⟩:=HB.out
  have hA2:=hA1.below hb2
  have hl2:=hl1.step (Step.of_below hb2 _)
  obtain ⟨bn,hbn⟩:∃ bn,bn=bytesP P:=⟨_,rfl⟩
  obtain ⟨gn,hgn⟩:∃ gn,gn=gainC P l:=⟨_,rfl⟩
  obtain ⟨kn,hkn⟩:∃ kn,kn=D.bk.length:=⟨_,rfl⟩
  have hsum:(bn:Int)+gn=(dn:Int):=by rw [HN.out.1,hbn,hgn]; exact (bytes_doneC hL.ok.2 hco.2).symm
  have hup2:=ok_doneC l hL.ok hco.1
  have hdl:dn≤1000000000:=by
   have h1:=bytesP_max hup2.1
   have h2:=doneC_len (P:=P) l
   have h3:=hL.few
   rw [HN.out.1]
   omega
  have hrl:rn≤375000:=by rw [HN.out.2]; exact roomN_most hL.len.2
  have HX:=Lib.hid (fun (W:World) (hW:Below w2.heap.size w2 W)=>anZ ((hb1.below hb2 hb1.lt).below hW (hb1.below hb2 hb1.lt).lt |>.cell 0) (anZ ((hlb.below hb2 hlb.lt).below hW (hlb.below hb2 hlb.lt).lt |>.cell 0) ((hA2.below hW).b.top.cells)))
  have HM:=Lib.hid (fun (W:World) (hW:Below w2.heap.size w2 W)=>(smore_any ((hA2.below hW).b.top.cells.2.2.2.2.2.1) (hA2.below hW).b.map hL.ok.1 (hl2.step (Step.of_below hW _)) hco.1 (by omega)).mono (fun e w' hp=>show e = .returned (.int .i64 gn)∧Below w2.heap.size w2 w' from ⟨by rw [hp.1,hgn],hW.trans (hp.2.mono hW.size)⟩))
  have HS:=Lib.hid (fun (W:World) (hW:Below w2.heap.size w2 W)=>(size_any (hA2.below hW).b.dev).mono (fun e w' hp=>show e = .returned (.int .i64 (kn:Int))∧W=w' from ⟨by rw [hp.1,hkn],hp.2⟩))
  have HQ:=Lib.hid (fun (W:World)=>(room_any D.bk.length W hL.len.2).mono (fun e w' hp=>show e = .returned (.int .i64 (rn:Int))∧W=w' from ⟨by rw [hp.1,HN.out.2],hp.2⟩))
  rw [← hkn] at HQ
  rw [← hbn] at HX
  have hdi:(dn:Int)≤1000000000:=by omega
  have hri:(rn:Int)≤375000:=by omega
  clear hA hL hA1 hl1 hbel hb1 hlb hlen hn hm hb2 hco h1000 hA2 hl2 hbn hgn hkn hup2 hdl hrl
  refine region_till 99 (fun W=>Below w2.heap.size w2 W) (by kernel_rfl) (below_drewN (Below.refl _ _) 1) (fun hS=>?_)
  refine tkZ (i:=0) 19 (ptr sb) rfl rfl (by kernel_rfl) (fun _ _ _ h=>h) (by rfl) (fun W hW=>?_) hS ?_
  ·obtain ⟨d1,d2,c0,c1,c2,c3,c4,c5,c6,c7⟩:=HX.out W hW
   clear hW
   go_simp
  simp only [Act.put,sAZ,sBZ,sCZ]
  refine tkZ (i:=1) 20 (ptr sb) rfl rfl (by kernel_rfl) (fun _ _ _ h=>h) (by rfl) (fun W hW=>?_) hS ?_
  ·obtain ⟨d1,d2,c0,c1,c2,c3,c4,c5,c6,c7⟩:=HX.out W hW
   clear hW
   go_simp
  simp only [Act.put,sAZ,sBZ,sCZ]
  refine tkZ (i:=2) 21 (.pointer (some ⟨sb,6,none⟩)) rfl rfl (by kernel_rfl) (fun _ _ _ h=>h) (by rfl) (fun W hW=>?_) hS ?_
  ·obtain ⟨d1,d2,c0,c1,c2,c3,c4,c5,c6,c7⟩:=HX.out W hW
   clear hW
   go_simp
  simp only [Act.put,sAZ,sBZ,sCZ]
  refine tkZ (i:=3) 22 (.int .i64 (bn:Int)) rfl rfl (by kernel_rfl) (fun _ _ _ h=>h) (by rfl) (fun W hW=>?_) hS ?_
  ·obtain ⟨d1,d2,c0,c1,c2,c3,c4,c5,c6,c7⟩:=HX.out W hW
   clear hW
   go_simp
  simp only [Act.put,sAZ,sBZ,sCZ]
  refine tkZ (i:=4) 23 (ptr sb) rfl rfl (by kernel_rfl) (fun _ _ _ h=>h) (by rfl) (fun W hW=>?_) hS ?_
  ·obtain ⟨d1,d2,c0,c1,c2,c3,c4,c5,c6,c7⟩:=HX.out W hW
   clear hW
   go_simp
  simp only [Act.put,sAZ,sBZ,sCZ]
  refine tkZ (i:=5) 24 (.slice la ln lc) rfl rfl (by kernel_rfl) (fun _ _ _ h=>h) (by rfl) (fun W hW=>?_) hS ?_
  ·obtain ⟨d1,d2,c0,c1,c2,c3,c4,c5,c6,c7⟩:=HX.out W hW
   clear hW
   go_simp
  simp only [Act.put,sAZ,sBZ,sCZ]
  refine tkZ (i:=8) 27 (ptr sb) rfl rfl (by kernel_rfl) (fun _ _ _ h=>h) (by rfl) (fun W hW=>?_) hS ?_
  ·obtain ⟨d1,d2,c0,c1,c2,c3,c4,c5,c6,c7⟩:=HX.out W hW
   clear hW
   go_simp
  simp only [Act.put,sAZ,sBZ,sCZ]
  refine tkZ (i:=9) 28 (ptr sb) rfl rfl (by kernel_rfl) (fun _ _ _ h=>h) (by rfl) (fun W hW=>?_) hS ?_
  ·obtain ⟨d1,d2,c0,c1,c2,c3,c4,c5,c6,c7⟩:=HX.out W hW
   clear hW
   go_simp
  simp only [Act.put,sAZ,sBZ,sCZ]
  refine tkZ (i:=10) 29 (.pointer (some ⟨sb,0,none⟩)) rfl rfl (by kernel_rfl) (fun _ _ _ h=>h) (by rfl) (fun W hW=>?_) hS ?_
  ·obtain ⟨d1,d2,c0,c1,c2,c3,c4,c5,c6,c7⟩:=HX.out W hW
   clear hW
   go_simp
  simp only [Act.put,sAZ,sBZ,sCZ]
  refine tkZ (i:=11) 30 (ptr db) rfl rfl (by kernel_rfl) (fun _ _ _ h=>h) (by rfl) (fun W hW=>?_) hS ?_
  ·obtain ⟨d1,d2,c0,c1,c2,c3,c4,c5,c6,c7⟩:=HX.out W hW
   clear hW
   go_simp
  simp only [Act.put,sAZ,sBZ,sCZ]
  refine next_till 6 (by kernel_rfl) rfl (fun K hK=>?_)
  go_simp
  refine (HM.out _ hS).mono ?_
  rintro e w3 ⟨rfl,hS3⟩
  go_simp
  refine hK.out _ _ (fun _=>hS3) ?_
  clear hK K hS
  have hS:=hS3
  refine tkZ (i:=7) 26 (.int .i64 (dn:Int)) rfl rfl (by kernel_rfl) (fun _ _ _ h=>h) (by rfl) (fun W hW=>?_) hS ?_
  ·clear HX
   clear hW
   go_simp
   exact IntWalk.i64_in _ (by omega)
  simp only [Act.put,sAZ,sBZ,sCZ]
  refine next_till 12 (by kernel_rfl) rfl (fun K hK=>?_)
  go_simp
  refine (HS.out _ hS).mono ?_
  rintro e w4 ⟨rfl,rfl⟩
  go_simp
  refine hK.out _ _ (fun _=>hS) ?_
  clear hK K
  refine next_till 13 (by kernel_rfl) rfl (fun K hK=>?_)
  go_simp
  refine (HQ.out _).mono ?_
  rintro e w4 ⟨rfl,rfl⟩
  go_simp
  refine hK.out _ _ (fun _=>hS) ?_
  clear hK K
  refine tkZ (i:=14) 33 (.bool (decide (rn < dn))) rfl rfl (by kernel_rfl) (fun _ _ _ h=>h) (by rfl) (fun W hW=>?_) hS ?_
  ·clear HX
   clear hW
   go_simp
  simp only [Act.put,sAZ,sBZ,sCZ]
  refine done_till (by kernel_rfl) ?_ _
  have HZ:=Lib.hid hS
  clear hS hS3 hsum hdi hri
  go_wp2_with fail
  go_meet
  case rel=>exact ⟨rfl,HZ.out⟩
 case rest =>
  obtain ⟨rfl,hS⟩:=hcut
  obtain ⟨hA,hL,hA1,hl1,hbel,hb1,hlb,hlen,hn,hm⟩:=HH.out
  obtain ⟨hb2,hco,h1000⟩:=HB.out
  have hbc:=hb2.trans (hS.mono hb2.size)
  have hAc:=hA1.below hbc
  have hlc:=hl1.step (Step.of_below hbc _)
  have hb1c:=hb1.below hbc hb1.lt
  have hlbc:=hlb.below hbc hlb.lt
  have HC:=Lib.hid (anZ hAc (anZ hlc (anZ hb1c (anZ hlbc (hbel.trans (hbc.mono hbel.size))))))
  by_cases hfull:rn < dn
  ·have HA:=Lib.hid hfull
   clear hA hL hA1 hl1 hbel hb1 hlb hlen hn hm hb2 hco h1000 hbc hAc hlc hb1c hlbc hS
   go_wp2
   go_ret
   exact .inr (.inr (.inl ⟨HB.out.2.2,HB.out.2.1,by rw [← HN.out.1, ← HN.out.2]; exact HA.out,rfl,HC.out.2.2.2.2⟩))
  have RC:=record_any hlc hco.1 (by omega)
  have c2:wc.cell? ⟨w.heap.size+1,0,none⟩=some (.slice la ln lc):=hlbc.cell 0
  have HF:=Lib.hid hfull
  clear hA hL hA1 hl1 hbel hb1 hlb hlen hn hm hb2 hco h1000 hbc hAc hlc hb1c hlbc hS
  go_wp2_with fail
  refine RC.mono ?_
  rintro e w3 ⟨rv,rfl,hv,hb3⟩
  clear RC c2
  obtain ⟨va,vc,rfl, -⟩:=hv.bs.shape
  obtain ⟨vn,hvn⟩:∃ vn,vn=(recL l).length:=⟨_,rfl⟩
  rw [← hvn] at hv
  rw [← hvn]
  obtain ⟨w4,hw4⟩:∃ w4,w4=w3.alloc (.cells #[.slice va vn vc] 24):=⟨_,rfl⟩
  have hb4:Below w3.heap.size w3 w4:=by rw [hw4]; exact (Below.refl _ _).alloc (Nat.le_refl _) _
  have hrb:Cel w4 w3.heap.size [.slice va vn vc] 24:=by rw [hw4]; exact Cel.new w3 _ _
  have hb34:=hb3.trans (hb4.mono hb3.size)
  have hA4:=HC.out.1.below hb34
  have hl4:=HC.out.2.1.step (Step.of_below hb34 _)
  have hb14:=HC.out.2.2.1.below hb34 HC.out.2.2.1.lt
  have hlb4:=HC.out.2.2.2.1.below hb34 HC.out.2.2.2.1.lt
  have hv4:=hv.bs.below hb4
  have hvo:∀ q,(Value.slice va vn vc).ownBlock=some q→wc.heap.size≤q∧q < w4.heap.size:=fun q hq=>by
   have h1:=World.ownsRow.lt hv q hq
   have:=hb4.size
   omega
  have HD:=Lib.hid (anZ hA4 (anZ hl4 (anZ hb14 (anZ hlb4 (anZ hrb (anZ hv4 (anZ hvo (anZ (HC.out.2.2.2.2.trans (hb34.mono HC.out.2.2.2.2.size)) (anZ hvn hb3)))))))))
  have HW4:=Lib.hid hw4.symm
  clear hw4 hb4 hrb hb34 hA4 hl4 hb14 hlb4 hv4 hvo hv hb3 hvn
  go_upto_region 11 with fail
  rw [HW4.out]
  have e1:w4.cell? ⟨w3.heap.size,0,none⟩=some (.slice va vn vc):=HD.out.2.2.2.2.1.cell 0
  have e2:w4.cell? ⟨w.heap.size,0,none⟩=some (ptr sb):=HD.out.2.2.1.cell 0
  have e3:w4.cell? ⟨sb,3,none⟩=some (ptr jb):=HD.out.1.b.top.cells.2.2.2.1
  have hrl:=recL_length HB.out.2.1.1
  have hvn6:(vn:Int)≤162000:=by have:=HB.out.2.2; have:=HD.out.2.2.2.2.2.2.2.2.1; omega
  obtain ⟨kb,hkb⟩:∃ kb,kb=nBlocks (recL l).length:=⟨_,rfl⟩
  obtain ⟨jf,hjf⟩:∃ jf,jf=(J.size:Int)-(J.ahead:Int):=⟨_,rfl⟩
  have hfit:J.Fit:=by obtain ⟨_,_,_,_,_,_,_,_,_,k4,_⟩:=HH.out.2.1; exact k4.fit
  have BK:=Lib.hid (fun m=>(blocks_any (vn:Int) (w4.drewN m) (by omega) (by omega)).mono (fun e w' hp=>show e = .returned (.int .i64 (kb:Int))∧w4.drewN m=w' from ⟨by rw [hp.1,hkb, ← HD.out.2.2.2.2.2.2.2.2.1]; rfl,hp.2⟩))
  have FR:=Lib.hid (fun m=>(free_any (HD.out.1.drewN m).j hfit).mono (fun e w' hp=>show e = .returned (.int .i64 jf)∧∃ m',w'=w4.drewN m' from ⟨by rw [hp.1,hjf],let ⟨k,hk⟩:=hp.2; ⟨m+k,by rw [hk,World.drewN_drewN]⟩⟩))
  have HJ:=Lib.hid (anZ hkb hjf)
  clear hrl hkb hjf hfit
  go_wp2_with fail
  go_quiet (first | (go_at_call 47; exact quiet_left (BK.out _)) | (go_at_call 48; exact FR.out _))
  obtain ⟨w5,hw5⟩:∃ w5,w5=w4.drewN nq:=⟨_,rfl⟩
  rw [← hw5]
  have hb45:Below w4.heap.size w4 w5:=by rw [hw5]; exact below_drewN (Below.refl _ _) nq
  have H5:=Lib.hid (anZ (HD.out.1.below hb45) (anZ hb45 (anZ (HD.out.2.2.1.below hb45 HD.out.2.2.1.lt) (anZ (HD.out.2.2.2.2.1.below hb45 HD.out.2.2.2.2.1.lt) (HD.out.2.2.2.1.below hb45 HD.out.2.2.2.1.lt)))))
  clear hb45 hw5 e1 e2 e3 hvn6
  by_cases hsv:jf < (kb:Int)
  ·have HSV:=Lib.hid hsv
   have c1:w5.cell? ⟨w.heap.size,0,none⟩=some (ptr sb):=H5.out.2.2.1.cell 0
   have SA:=saving_any sb w5 (S:=AS sb jb mb F G) H5.out.1.lt
   have hlt0:∀ q,AS sb jb mb F G q→q < w5.heap.size:=H5.out.1.lt
   have hw45:w4.heap.size≤w5.heap.size:=H5.out.2.1.size
   go_wp2_with fail
   refine SA.mono ?_
   rintro e wb ⟨tv,bs,pgb,rfl,hrd,hbs,hpb,hl1,hl2,hne,hbel,hro,hown⟩
   clear SA c1
   obtain ⟨ta,tc,rfl, -⟩:=hrd.shape
   obtain ⟨tn,htn⟩:∃ tn,tn=(savL bs pgb).length:=⟨_,rfl⟩
   rw [← htn] at hro hown
   rw [← htn]
   have hb46:=H5.out.2.1.trans (hbel.mono H5.out.2.1.size)
   have HB5:=Lib.hid (anZ (HD.out.1.below hb46) (anZ hb46 (anZ (HD.out.2.2.1.below hb46 HD.out.2.2.1.lt) (anZ (HD.out.2.2.2.2.1.below hb46 HD.out.2.2.2.2.1.lt) (HD.out.2.2.2.1.below hb46 HD.out.2.2.2.1.lt)))))
   have hl1':w4.heap.size≤bs:=Nat.le_trans hw45 hl1
   have hl2':w4.heap.size≤pgb:=Nat.le_trans hw45 hl2
   have hown':∀ q,(Value.slice ta tn tc).ownBlock=some q→w4.heap.size≤q∧q≠bs∧q≠pgb∧q < wb.heap.size:=fun q hq=>⟨Nat.le_trans hw45 (hown q hq).1,(hown q hq).2⟩
   have hlt1:∀ q,AS sb jb mb F G q→q < w4.heap.size:=HD.out.1.lt
   clear hb46 htn hbel hl1 hl2 hown hw45 hlt0 hrd
   clear H5
   go_upto_region 14 with fail
   have hkeep:wb.heap[w.heap.size]? = w4.heap[w.heap.size]?:=by rw [show wb.heap[w.heap.size]? = _ from HB5.out.2.2.1,show w4.heap[w.heap.size]? = _ from HD.out.2.2.1]
   have HX2:=Lib.hid (fun (W:World) (hW:W.heap[w.heap.size]? = w4.heap[w.heap.size]?)=>(HD.out.2.2.1.kept hW).cell 0)
   refine region_till 99 (fun W=>W.heap[w.heap.size]? = w4.heap[w.heap.size]?) (by kernel_rfl) hkeep (fun hS=>?_)
   refine tkZ (i:=0) 47 (ptr sb) rfl rfl (by kernel_rfl) (fun _ _ _ h=>h) (by rfl) (fun W hW=>?_) hS ?_
   ·have c0:=HX2.out W hW
    clear hW
    go_simp
   simp only [Act.put,sAZ,sBZ,sCZ]
   refine tkZ (i:=1) 48 (.slice ta tn tc) rfl rfl (by kernel_rfl) (fun _ _ _ h=>h) (by rfl) (fun W hW=>?_) hS ?_
   ·have c0:=HX2.out W hW
    clear hW
    go_simp
   simp only [Act.put,sAZ,sBZ,sCZ]
   refine tkZ (i:=2) 49 (.func (.func 50) #[] #[ptr w.heap.size,ptr w3.heap.size]) rfl rfl (by kernel_rfl) (fun _ _ _ h=>h) (by rfl) (fun W hW=>?_) hS ?_
   ·have c0:=HX2.out W hW
    clear hW
    go_simp
   simp only [Act.put,sAZ,sBZ,sCZ]
   refine tkZ (i:=3) 50 (.func (.func 52) #[] #[ptr w.heap.size,ptr (w.heap.size+1)]) rfl rfl (by kernel_rfl) (fun _ _ _ h=>h) (by rfl) (fun W hW=>?_) hS ?_
   ·have c0:=HX2.out W hW
    clear hW
    go_simp
   simp only [Act.put,sAZ,sBZ,sCZ]
   refine next_till 4 (by kernel_rfl) rfl (fun K hK=>?_)
   go_simp
   refine hK.out _ _ (fun _=>(Below.heap_alloc wb _ w.heap.size HB5.out.2.2.1.lt).trans hS) ?_
   clear hK K
   obtain ⟨ua,uc,un,w6,hun,hrun,hrow,ho6⟩:=fn_append wb.drew (tv:=.slice ta tn tc) (L0:=savL bs pgb) (L1:=comL w.heap.size w3.heap.size (w.heap.size+1)) (T:=fun q=>AS sb jb mb F G q∨q=pgb) (hro.below (below_drewN (Below.refl _ _) 1)) (fun q hq ha=>ha.elim (fun ha=>by have:=hlt1 q ha; have:=(hown' q hq).1; omega) (hown' q hq).2.2.1) (fun q hq=>hq.elim (fun hq=>HB5.out.1.lt q hq) (fun (e:q=pgb)=>by rw [e]; exact hpb.lt)) (cs := #[.func (.func 50) #[] #[ptr w.heap.size,ptr w3.heap.size], .func (.func 52) #[] #[ptr w.heap.size,ptr (w.heap.size+1)]]) rfl (by show 5≤1000; decide) (by show 2≤1000; decide) (k:=2) rfl 82
   have hb46:Below w4.heap.size w4 w6:=HB5.out.2.1.trans ((below_drewN (Below.refl _ _) 1).trans (ho6.below (B:=w4.heap.size) HB5.out.2.1.size (fun q hq=>by have:=(hown' q hq).1; omega)))
   have hA6:=HD.out.1.below hb46
   have hb1s:∀ q,w.heap.size≤q→¬ AS sb jb mb F G q:=fun q hq ha=>by have:=HH.out.1.lt q ha; omega
   have hbc:=HC.out.2.2.2.2.size
   have hb3w:wc.heap.size≤w3.heap.size:=HD.out.2.2.2.2.2.2.2.2.2.size
   have hb4w:=HD.out.2.2.2.2.1.lt
   have CA:ComAt w6 (fun q=>AS sb jb mb F G q∨q=pgb) sb w.heap.size w3.heap.size (w.heap.size+1) (.slice va vn vc) (.slice la ln lc) l:=⟨HD.out.2.2.1.below hb46 HD.out.2.2.1.lt,fun hq=>hq.elim (hb1s _ (Nat.le_refl _)) (by omega),HD.out.2.2.2.2.1.below hb46 hb4w,fun hq=>hq.elim (hb1s _ (by omega)) (by omega),HD.out.2.2.2.2.2.1.below hb46,
    fun q hq=>⟨fun hx=>hx.elim (hb1s q (by have:=HD.out.2.2.2.2.2.2.1 q hq; omega)) (by have:=HD.out.2.2.2.2.2.2.1 q hq; omega),by have:=HD.out.2.2.2.2.2.2.1 q hq; have:=hb46.size; omega⟩,HD.out.2.2.2.1.below hb46 HD.out.2.2.2.1.lt,fun hq=>hq.elim (hb1s _ (by omega)) (fun (e:w.heap.size+1=pgb)=>by have:=HD.out.2.2.2.1.lt; omega),HD.out.2.1.step ⟨Only.of_below hb46 _,fun q hq=>hq.elim .inl (fun (e:q=pgb)=>.inr (by omega))⟩⟩
   have hcom:ComOk l∧l.length≤1000:=HB.out.2
   have hfits:bytesP (doneC P l)≤roomN D.bk.length:=by rw [← HN.out.1, ← HN.out.2]; have:=HF.out; omega
   obtain ⟨hL,hn,hm⟩:Lv D ps J g P n m∧n≤900000∧m+2≤4000000:=⟨HH.out.2.1,HH.out.2.2.2.2.2.2.2.2.1,HH.out.2.2.2.2.2.2.2.2.2⟩
   have RUN:=run_both hA6 hL CA (bs:=bs) (Cel.only (S:=fun q=>(Value.slice ta tn tc).ownBlock=some q) (w:=wb.drew) hbs ho6 (fun e=>(hown' _ e).2.1 rfl)) (fun ha=>by have:=hlt1 _ ha; omega) hne (Cel.only (S:=fun q=>(Value.slice ta tn tc).ownBlock=some q) (w:=wb.drew) hpb ho6 (fun e=>(hown' _ e).2.2.1 rfl)) (fun ha=>by have:=hlt1 _ ha; omega) hrow hcom hfits (by omega) (by omega) (show n+4348≤n+4500 by omega) (show m+2≤m+2 by omega)
   have EN:=send_any (sb:=sb) RUN (fun _ h=>h.hasSt) (fun _ _ h=>let ⟨_,h⟩:=h.2; h.hasSt)
   have S6:w6.heap[w.heap.size]? = w4.heap[w.heap.size]?:=hb46.block _ HD.out.2.2.1.lt
   have HCA:=Lib.hid CA
   have hbw6:Below w.heap.size w w6:=HD.out.2.2.2.2.2.2.2.1.trans (hb46.mono HD.out.2.2.2.2.2.2.2.1.size)
   have HST:=Lib.hid (show Step (AS sb jb mb F G) w w6 (fun q=>AS sb jb mb F G q∨q=pgb) from ⟨Only.of_below hbw6 _,fun q hq=>hq.elim .inl (fun (e:q=pgb)=>.inr (by omega))⟩)
   have HCF:=Lib.hid (anZ hcom hfits)
   have hsbne:sb≠w.heap.size:=fun e=>by have:=HH.out.1.b.top.lt; omega
   have HNE:=Lib.hid hsbne
   clear hun hrow ho6 hbw6 hb46 hA6 hb1s hbc hb3w hb4w CA hcom hfits hL hn hm RUN hS hsbne hro hown' hlt1 hbs hpb hl1' hl2' hne
   refine next_till 5 (by kernel_rfl) rfl (fun K hK=>?_)
   rw [if_pos (by rfl)]
   refine wp_append_run (.tmp 48) (.tmp 51) 82 rfl rfl rfl hrun ?_
   refine hK.out _ _ (fun _=>S6) ?_
   clear hK K hrun
   refine next_till 6 (by kernel_rfl) rfl (fun K hK=>?_)
   go_simp
   refine EN.mono ?_
   rintro e w7 hE
   obtain ⟨c,rfl⟩:=Ended.one _ _ hE
   have hS:w7.heap[w.heap.size]? = w4.heap[w.heap.size]?:=by rw [show w7.heap[w.heap.size]? = _ from hE.kept HCA.out.b HCA.out.bo (fun e=>HNE.out e.symm),show w4.heap[w.heap.size]? = _ from HD.out.2.2.1]
   have HE:=Lib.hid hE
   clear EN S6 hE
   go_simp
   refine hK.out _ _ (fun _=>hS) ?_
   clear hK K
   refine tkZ (i:=7) 4 (.int .i64 c) rfl rfl (by kernel_rfl) (fun _ _ _ h=>h) (by rfl) (fun W hW=>?_) hS ?_
   ·clear HX2
    clear hW
    go_simp
   simp only [Act.put,sAZ,sBZ,sCZ]
   refine done_till (by kernel_rfl) ?_ _
   clear hS
   go_wp2
   go_ret
   exact .inr (.inr (.inr ⟨HCF.out.1.2,HCF.out.1.1,HCF.out.2,lasts_of HE.out HST.out⟩))
  ·have HSV:=Lib.hid hsv
   go_upto_region 14 with fail
   have hkeep:w5.heap[w.heap.size]? = w4.heap[w.heap.size]?:=by rw [show w5.heap[w.heap.size]? = _ from H5.out.2.2.1,show w4.heap[w.heap.size]? = _ from HD.out.2.2.1]
   have HX2:=Lib.hid (fun (W:World) (hW:W.heap[w.heap.size]? = w4.heap[w.heap.size]?)=>(HD.out.2.2.1.kept hW).cell 0)
   refine region_till 99 (fun W=>W.heap[w.heap.size]? = w4.heap[w.heap.size]?) (by kernel_rfl) hkeep (fun hS=>?_)
   refine tkZ (i:=0) 47 (ptr sb) rfl rfl (by kernel_rfl) (fun _ _ _ h=>h) (by rfl) (fun W hW=>?_) hS ?_
   ·have c0:=HX2.out W hW
    clear hW
    go_simp
   simp only [Act.put,sAZ,sBZ,sCZ]
   refine tkZ (i:=1) 48 (.slice none 0 0) rfl rfl (by kernel_rfl) (fun _ _ _ h=>h) (by rfl) (fun W hW=>?_) hS ?_
   ·have c0:=HX2.out W hW
    clear hW
    go_simp
   simp only [Act.put,sAZ,sBZ,sCZ]
   refine tkZ (i:=2) 49 (.func (.func 50) #[] #[ptr w.heap.size,ptr w3.heap.size]) rfl rfl (by kernel_rfl) (fun _ _ _ h=>h) (by rfl) (fun W hW=>?_) hS ?_
   ·have c0:=HX2.out W hW
    clear hW
    go_simp
   simp only [Act.put,sAZ,sBZ,sCZ]
   refine tkZ (i:=3) 50 (.func (.func 52) #[] #[ptr w.heap.size,ptr (w.heap.size+1)]) rfl rfl (by kernel_rfl) (fun _ _ _ h=>h) (by rfl) (fun W hW=>?_) hS ?_
   ·have c0:=HX2.out W hW
    clear hW
    go_simp
   simp only [Act.put,sAZ,sBZ,sCZ]
   refine next_till 4 (by kernel_rfl) rfl (fun K hK=>?_)
   go_simp
   refine hK.out _ _ (fun _=>(Below.heap_alloc w5 _ w.heap.size H5.out.2.2.1.lt).trans hS) ?_
   clear hK K
   obtain ⟨ua,uc,un,w6,hun,hrun,hrow,ho6⟩:=fn_append w5.drew (tv:=.slice none 0 0) (L0:=[]) (L1:=comL w.heap.size w3.heap.size (w.heap.size+1)) (T:=AS sb jb mb F G) (Ro.nil _ _ _ _) (fun q h=>by cases h) (fun q hq=>H5.out.1.lt q hq) (cs := #[.func (.func 50) #[] #[ptr w.heap.size,ptr w3.heap.size], .func (.func 52) #[] #[ptr w.heap.size,ptr (w.heap.size+1)]]) rfl (by show 0≤1000; decide) (by show 2≤1000; decide) (k:=2) rfl 82
   have hb46:Below w4.heap.size w4 w6:=H5.out.2.1.trans ((below_drewN (Below.refl _ _) 1).trans (ho6.below (B:=w4.heap.size) H5.out.2.1.size (fun q h=>by cases h)))
   have hA6:=HD.out.1.below hb46
   have hb1s:∀ q,w.heap.size≤q→¬ AS sb jb mb F G q:=fun q hq ha=>by have:=HH.out.1.lt q ha; omega
   have hbc:=HC.out.2.2.2.2.size
   have hb3w:wc.heap.size≤w3.heap.size:=HD.out.2.2.2.2.2.2.2.2.2.size
   have hb4w:=HD.out.2.2.2.2.1.lt
   have CA:ComAt w6 (AS sb jb mb F G) sb w.heap.size w3.heap.size (w.heap.size+1) (.slice va vn vc) (.slice la ln lc) l:=⟨HD.out.2.2.1.below hb46 HD.out.2.2.1.lt,hb1s _ (Nat.le_refl _),HD.out.2.2.2.2.1.below hb46 hb4w,hb1s _ (by omega),HD.out.2.2.2.2.2.1.below hb46,
    fun q hq=>⟨hb1s q (by have:=HD.out.2.2.2.2.2.2.1 q hq; omega),by have:=HD.out.2.2.2.2.2.2.1 q hq; have:=hb46.size; omega⟩,HD.out.2.2.2.1.below hb46 HD.out.2.2.2.1.lt,hb1s _ (by omega),HD.out.2.1.step (Step.of_below hb46 _)⟩
   have hcom:ComOk l∧l.length≤1000:=HB.out.2
   have hfits:bytesP (doneC P l)≤roomN D.bk.length:=by rw [← HN.out.1, ← HN.out.2]; have:=HF.out; omega
   obtain ⟨hL,hn,hm⟩:Lv D ps J g P n m∧n≤900000∧m+2≤4000000:=⟨HH.out.2.1,HH.out.2.2.2.2.2.2.2.2.1,HH.out.2.2.2.2.2.2.2.2.2⟩
   have RUN:=run_com hA6 hL CA (show Rd kdFn w6 (AS sb jb mb F G) (.slice ua un uc) (comL w.heap.size w3.heap.size (w.heap.size+1)) from hrow) hcom (by have h1:=HJ.out.2; have h2:=HJ.out.1; have h3:=HSV.out; have h4:J.size=360:=(by obtain ⟨_,_,_,_,_,_,_,_,_,_,k,_⟩:=hL; exact k.2.1); omega) hfits (by omega) (by omega) (show n+345≤n+4500 by omega) (show m+1≤m+2 by omega)
   have EN:=send_any (sb:=sb) RUN (fun _ h=>h.hasSt) (fun _ _ h=>let ⟨_,h⟩:=h.2; h.hasSt)
   have S6:w6.heap[w.heap.size]? = w4.heap[w.heap.size]?:=hb46.block _ HD.out.2.2.1.lt
   have HCA:=Lib.hid CA
   have hbw6:Below w.heap.size w w6:=HD.out.2.2.2.2.2.2.2.1.trans (hb46.mono HD.out.2.2.2.2.2.2.2.1.size)
   have HST:=Lib.hid (show Step (AS sb jb mb F G) w w6 (AS sb jb mb F G) from Step.of_below hbw6 _)
   have HCF:=Lib.hid (anZ hcom hfits)
   have hsbne:sb≠w.heap.size:=fun e=>by have:=HH.out.1.b.top.lt; omega
   have HNE:=Lib.hid hsbne
   clear hun hrow ho6 hbw6 hb46 hA6 hb1s hbc hb3w hb4w CA hcom hfits hL hn hm RUN hS hsbne
   refine next_till 5 (by kernel_rfl) rfl (fun K hK=>?_)
   rw [if_pos (by rfl)]
   refine wp_append_run (.tmp 48) (.tmp 51) 82 rfl rfl rfl hrun ?_
   refine hK.out _ _ (fun _=>S6) ?_
   clear hK K hrun
   refine next_till 6 (by kernel_rfl) rfl (fun K hK=>?_)
   go_simp
   refine EN.mono ?_
   rintro e w7 hE
   obtain ⟨c,rfl⟩:=Ended.one _ _ hE
   have hS:w7.heap[w.heap.size]? = w4.heap[w.heap.size]?:=by rw [show w7.heap[w.heap.size]? = _ from hE.kept HCA.out.b HCA.out.bo (fun e=>HNE.out e.symm),show w4.heap[w.heap.size]? = _ from HD.out.2.2.1]
   have HE:=Lib.hid hE
   clear EN S6 hE
   go_simp
   refine hK.out _ _ (fun _=>hS) ?_
   clear hK K
   refine tkZ (i:=7) 4 (.int .i64 c) rfl rfl (by kernel_rfl) (fun _ _ _ h=>h) (by rfl) (fun W hW=>?_) hS ?_
   ·clear HX2
    clear hW
    go_simp
   simp only [Act.put,sAZ,sBZ,sCZ]
   refine done_till (by kernel_rfl) ?_ _
   clear hS
   go_wp2
   go_ret
   exact .inr (.inr (.inr ⟨HCF.out.1.2,HCF.out.1.1,HCF.out.2,lasts_of HE.out HST.out⟩))
end
end Go.Proofs.YtgkofgifoiinkaaGreat
namespace Go.Proofs.YtgkofgifoiinkaaGreat
open Go.RowKit
section
variable {w:World} {sb g mb:Nat} {dv pv tv jv:Value} {bn:Int} {P:List Pr}
theorem sbytes_any (h:StC w sb dv pv tv jv g mb bn false):Calls Tryz.prog 26 #[ptr sb] w fun e w'=>e = .returned (.int .i64 bn)∧w=w':=by
 have hr:=sready_any h
 have c6:=h.cells.2.2.2.2.2.2.1
 rw [if_neg (by decide)] at hr
 clear h
 go_enter Tryz.func26,Tryz.ntmps26
 go_wp2_with fail
 refine hr.mono ?_
 rintro e w1 ⟨rfl,rfl⟩
 clear hr
 go_wp2
 go_ret
 exact ⟨rfl,rfl⟩
set_option maxHeartbeats 1000000 in
theorem sscan_any {S:Nat→Prop} {fv tv':Value} {f t:Bytes} (h:StC w sb dv pv tv jv g mb bn false) (hm:SMap w mb P) (hp:∀ p∈P,PrOk p) (hP:P.length≤1000000) (hS:∀ q,S q→q < w.heap.size) (hf:Bs w fv f) (ht:Bs w tv' t) :
  Calls Tryz.prog 20 #[ptr sb,fv,tv'] w fun e w'=>∃ v,e = .returned (.tuple #[v,err 0])∧Rd kdPr w' S v (inSpan f t P)∧Below w.heap.size w w':=by
 have hr:=sready_any h
 have c5:=h.cells.2.2.2.2.2.1
 rw [if_neg (by decide)] at hr
 have t1:=run_string_bs bt (d:=9) Tryz.underlying9 w hf
 have t2:=run_string_bs bt (d:=9) Tryz.underlying9 w ht
 have hs:=sorted_any (f:=f) (t:=t) c5 hm hp hP hS
 obtain ⟨fa,fc,rfl,_⟩:=hf.shape
 obtain ⟨ta,tc,rfl,_⟩:=ht.shape
 clear h hm hp hP hS hf ht c5
 go_enter Tryz.func20,Tryz.ntmps20
 go_wp2_with fail
 refine hr.mono ?_
 rintro e w1 ⟨rfl,rfl⟩
 clear hr
 go_wp2_with fail
 refine hs.mono ?_
 rintro e w2 ⟨v,rfl,hrd,hb⟩
 clear hs t1 t2
 have HH:=Lib.hid (anZ hrd hb)
 clear hrd hb
 go_wp2
 go_ret2
 exact ⟨v,rfl,HH.out⟩
def Told (w:World) (l:Option Bytes) (e:Ending) (w':World):Prop:=∃ v,e = .returned (.tuple #[v, .bool l.isSome,err 0])∧Bs w' v (l.getD [])∧Below w.heap.size w w'
set_option maxHeartbeats 1000000 in
theorem sget_any {kv:Value} {k:Bytes} (h:StC w sb dv pv tv jv g mb bn false) (hm:SMap w mb P) (hp:∀ p∈P,PrOk p) (hk:Bs w kv k) (hl:k.length≤maxLen) :
  Calls Tryz.prog 29 #[ptr sb,kv] w (Told w (lookP P k)):=by
 have hr:=sready_any h
 have c5:=h.cells.2.2.2.2.2.1
 rw [if_neg (by decide)] at hr
 have t1:=fun m=>run_string_bs bt (d:=9) Tryz.underlying9 (w.drewN m) (hk.kept fun _ _ hu=>hu)
 have t2:=fun m=>(hm.kept (w':=w.drewN m) rfl).look (k:=k) hl
 have hvl:∀ v,lookP P k=some v→v.length≤128:=fun v hv=>lookP_ok hp hv
 obtain ⟨ka,kc,rfl,_⟩:=hk.shape
 unfold Told
 rcases hlk:lookP P k with _ | v0
 ·rw [hlk] at t2
  simp only [Option.getD_none,Option.isSome_none] at t2 ⊢
  clear h hm hp hk hl hlk hvl
  go_enter Tryz.func29,Tryz.ntmps29
  go_wp2_with fail
  refine hr.mono ?_
  rintro e w1 ⟨rfl,rfl⟩
  clear hr
  go_wp2
  go_quiet (fail)
  clear t1 t2
  go_wp2
  go_ret3
  exact ⟨_,rfl,Bs.nil _,below_drewN (Below.refl _ _) _⟩
 ·rw [hlk] at t2
  simp only [Option.getD_some,Option.isSome_some] at t2 ⊢
  have hv0:=hvl v0 hlk
  have hsb:∀ m,∃ c w',(convert 9 24 (strV v0)).run Tryz.prog (w.drewN m) = .ok (.slice (some ⟨(w.drewN m).heap.size,0,none⟩) v0.length c) w'∧Bs w' (.slice (some ⟨(w.drewN m).heap.size,0,none⟩) v0.length c) v0∧Below (w.drewN m).heap.size (w.drewN m) w':=fun m=>str_bytes _ _ (by unfold maxLen; omega)
  clear h hm hp hk hl hlk hvl hv0
  have HB:=Lib.hid hsb
  clear hsb
  go_enter Tryz.func29,Tryz.ntmps29
  go_wp2_with fail
  refine hr.mono ?_
  rintro e w1 ⟨rfl,rfl⟩
  clear hr
  go_wp2
  go_quiet (fail)
  clear t1 t2
  obtain ⟨c,w2,hr2,hb2,hbe⟩:=HB.out nq
  have HE:=Lib.hid (anZ hb2 ((below_drewN (Below.refl w.heap.size w) nq).trans (hbe.mono (Nat.le_refl _))))
  clear hb2 hbe
  go_wp2
  go_ret3
  exact ⟨_,rfl,HE.out.1,HE.out.2⟩
end
end Go.Proofs.YtgkofgifoiinkaaGreat
namespace Go.Proofs.YtgkofgifoiinkaaGreat
open Go.RowKit
def filled (c d:UInt8):Bytes:=List.replicate 511 c++[d]
def fillTo (c:UInt8) (r:Nat):Bytes:=List.replicate r c++List.replicate (512-r) 0
def fullOf (c:UInt8):Bytes:=filled c c
end Go.Proofs.YtgkofgifoiinkaaGreat
namespace Go.Proofs.YtgkofgifoiinkaaGreat
open Go.RowKit Go.Maps
section
variable {w0 w:World} {b:Nat} {D:Dv} {v:Value} {l:Bytes}
end
end Go.Proofs.YtgkofgifoiinkaaGreat
namespace Go.Proofs.YtgkofgifoiinkaaGreat
open Go.RowKit Go.Maps
def Lasts (P:Nat→Prop) (w:World) (Q:World→Prop):Prop:=∀ w',(∀ q,P q→w'.heap[q]? = w.heap[q]?)→Q w'
theorem bs_lasts {w:World} {v:Value} {l:Bytes} (h:Bs w v l):Lasts (fun q=>l≠[]∧v.ownBlock=some q) w (fun w'=>Bs w' v l):=fun w' hk=>by
 rcases Nat.eq_zero_or_pos l.length with hl | hl
 ·obtain rfl:l=[]:=List.eq_nil_of_length_eq_zero hl
  obtain ⟨a,cap,rfl,h1,h2,h3,h4⟩:=h
  exact ⟨a,cap,rfl,h1,h2,h3,fun ad _ i u hu=>by simp [bvs] at hu⟩
 ·obtain ⟨a,cap,rfl,h2,h3,h4,h5⟩:=h
  refine ⟨a,cap,rfl,h2,h3,h4,fun ad had i u hu=>?_⟩
  subst had
  have hc:=h5 _ rfl i u hu
  have hblk:(ad.add i).block=ad.block:=by
   unfold Addr.add
   split <;> rfl
  exact (World.cell?_of_block (hk (ad.add i).block ⟨fun e=>by simp [e] at hl,by rw [hblk]; rfl⟩)).trans hc
def Own (w0 w:World) (b:Nat) (D:Dv) (Q:World→Prop):Prop :=
 ∃ F P,Dev w b D F∧(∀ q,F q→w0.heap.size≤q)∧Below w0.heap.size w0 w∧(∀ q,P q→q < w.heap.size∧¬ F q)∧Lasts P w Q
section
variable {w0 w w':World} {b n:Nat} {D D':Dv} {Q R:World→Prop} {c:Int} {v:Value} {l:Bytes}
theorem Own.now (h:Own w0 w b D Q):Q w:=let ⟨_,_,_,_,_,_,h⟩:=h; h w fun _ _=>rfl
theorem Own.under (h:Own w0 w b D Q):Below w0.heap.size w0 w:=let ⟨_,_,_,_,h,_⟩:=h; h
theorem Own.later (h:Own w0 w b D Q) (hb:Below w.heap.size w w'):Own w0 w' b D Q:=by
 obtain ⟨F,P,h1,h2,h3,h4,h5⟩:=h
 exact ⟨F,P,h1.below hb,h2,h3.trans (hb.mono h3.size),fun q hq=>⟨Nat.lt_of_lt_of_le (h4 q hq).1 hb.size,(h4 q hq).2⟩,fun w'' hk=>h5 w'' fun q hq=>(hk q hq).trans (hb.block q (h4 q hq).1)⟩
theorem Own.base {w1:World} (h:Own w1 w b D Q) (hb:Below w0.heap.size w0 w1):Own w0 w b D Q:=by
 obtain ⟨F,P,h1,h2,h3,h4,h5⟩:=h
 have hz:=hb.size
 exact ⟨F,P,h1,fun q hq=>by have:=h2 q hq; omega,hb.trans (h3.mono hz),h4,h5⟩
theorem Own.forget (h:Own w0 w b D Q) (hr:∀ W,Q W→R W):Own w0 w b D R:=by
 obtain ⟨F,P,h1,h2,h3,h4,h5⟩:=h
 exact ⟨F,P,h1,h2,h3,h4,fun w'' hk=>hr _ (h5 w'' hk)⟩
theorem Own.with (h:Own w0 w b D Q) (hb:Below w.heap.size w w') {S:Nat→Prop} (hs:Lasts S w' R) (hS:∀ q,S q→w.heap.size≤q∧q < w'.heap.size):Own w0 w' b D (fun W=>Q W∧R W):=by
 obtain ⟨F,P,h1,h2,h3,h4,h5⟩:=h.later hb
 obtain ⟨F0,P0,g1,g2,g3,g4,g5⟩:=h
 refine ⟨F0,fun q=>P0 q∨S q,g1.below hb,g2,h3,fun q hq=>hq.elim (fun hq=>⟨Nat.lt_of_lt_of_le (g4 q hq).1 hb.size,(g4 q hq).2⟩) fun hq=>⟨(hS q hq).2,fun hf=>by have:=g1.fl q hf; have:=(hS q hq).1; omega⟩,
  fun w'' hk=>⟨g5 w'' fun q hq=>(hk q (.inl hq)).trans (hb.block q (g4 q hq).1),hs w'' fun q hq=>hk q (.inr hq)⟩⟩
theorem Own.bytes (h:Own w0 w b D Q) (hn:New w w' v l) (hb:Below w.heap.size w w'):Own w0 w' b D (fun W=>Q W∧Bs W v l) :=
 h.with hb (bs_lasts hn.1) fun q hq=>⟨hn.2 q hq.2,hn.1.old (List.length_pos_iff.2 hq.1) hq.2⟩
theorem Own.step {f:FuncId} {args:Array Value} (h:Own w0 w b D Q) (hs:∀ F,Dev w b D F→(∀ q,F q→w0.heap.size≤q)→Calls Tryz.prog f args w (DSteps w b F c D')):Calls Tryz.prog f args w fun e w'=>e = .returned (err c)∧Own w0 w' b D' Q:=by
 obtain ⟨F,P,h1,h2,h3,h4,h5⟩:=h
 refine (hs F h1 h2).mono ?_
 rintro e w' ⟨rfl,hd,ho⟩
 have hz:=h3.size
 refine ⟨rfl,_,P,hd,fun q hq=>hq.elim (h2 q) fun hq=>by omega,h3.trans (ho.below hz h2),fun q hq=>⟨Nat.lt_of_lt_of_le (h4 q hq).1 ho.size,fun hf=>hf.elim (h4 q hq).2 fun hf=>by have:=(h4 q hq).1; omega⟩,fun w'' hk=>h5 w'' fun q hq=>(hk q hq).trans (ho.block q (h4 q hq).1 (h4 q hq).2)⟩
theorem own_new (k:Nat) (w:World) (h1:1≤k) (h2:k≤4096):Calls Tryz.prog 9 #[.int .i64 (k:Int)] w fun e w'=>∃ b,e = .returned (.tuple #[ptr b,err 0])∧Own w w' b (fresh k) (fun _=>True):=by
 refine (m_new k w h1 h2).mono ?_
 rintro e w' ⟨b,rfl,F,hd,hf,hb⟩
 exact ⟨b,rfl,F,fun _=>False,hd,hf,hb,fun q hq=>hq.elim,fun _ _=>trivial⟩
theorem own_off (h:Own w0 w b D Q):Calls Tryz.prog 17 #[ptr b] w fun e w'=>e = .returned (err (ocode D))∧Own w0 w' b (odev D) Q:=h.step fun _ hd _=>doff_any hd
theorem own_on (h:Own w0 w b D Q) (hu:Upto D n) (hn:n < 1000000) {pv:Value} {ps:List Int} (hp:Iv w0 pv ps):Calls Tryz.prog 18 #[ptr b,pv] w fun e w'=>e = .returned (err (ncode D))∧Own w0 w' b (ndev D ps) Q:=by
 have hb:=h.under
 refine h.step fun F hd hf=>don_any hd (hu.small (by omega)) (hp.kept fun q _ _ hq=>hb.block q hq) fun hne q hq hF=>?_
 obtain ⟨u,r,rfl⟩:=List.exists_cons_of_ne_nil hne
 obtain ⟨g,o,cap,rfl,hc⟩:=hp.open (i:=0) rfl
 cases hq
 have:=World.block_lt_of_cell? w0 _ hc.1
 simp only at this
 have:=hf g hF
 omega
end
end Go.Proofs.YtgkofgifoiinkaaGreat
