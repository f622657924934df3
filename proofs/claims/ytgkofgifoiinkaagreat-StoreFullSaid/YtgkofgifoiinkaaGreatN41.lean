/- run over the steps of a commit, with or without those of saving ahead; condition: the store lives, its numbers are within their bounds. -/
import Derived.Test.YtgkofgifoiinkaaGreatN40
import Derived.Test.YtgkofgifoiinkaaGreatN39
namespace Go.Proofs.YtgkofgifoiinkaaGreat
open Go.RowKit
section
variable {w:World} {db n:Nat} {D:Dv} {F:Nat→Prop}
theorem loadV_gen (D:Dv):(loadV D).1≤4611686018427387904:=by
 unfold loadV
 split
 ·decide
 split
 ·decide
 split
 ·decide
 ·simp only
  unfold best
  split
  ·exact rootOf_gen _ _
  ·exact rootOf_gen _ _
def NewsS (w:World) (db:Nat) (D:Dv) (n:Nat) (F:Nat→Prop) (e:Ending) (w':World):Prop:=∃ sb D' T,e = .returned (.tuple #[ptr sb,err 0])∧Sto w' sb db D' [] (n+400) 1 T∧D'.left < 0∧D'.bk.length=D.bk.length∧Step F w w' T
set_option maxHeartbeats 2000000 in
theorem stnew_any (h:Dev w db D F) (ho:D.on=true) (hlf:D.left < 0) (hu:Upto D n) (hn:n≤700000) (hlen:442≤D.bk.length):Calls Tryz.prog 10 #[ptr db] w (NewsS w db D n F):=by
 have OV:=sover_any h ho hlen
 have HH:=Lib.hid (anZ h (anZ ho (anZ hlf (anZ hu (anZ hn hlen)))))
 clear h ho hlf hu hn hlen
 go_enter Tryz.func10,Tryz.ntmps10
 go_wp2_with fail
 refine OV.mono ?_
 rintro e w1 ⟨sb,pb,tb,mb,G,rfl,hB,⟨l1,l2,l3,l4⟩,hb1⟩
 clear OV
 obtain ⟨w2,hw2⟩:∃ w2,w2=w1.alloc (.cells #[ptr sb] 31):=⟨_,rfl⟩
 have hb2:Below w1.heap.size w1 w2:=by rw [hw2]; exact (Below.refl _ _).alloc (Nat.le_refl _) _
 have hbx:Cel w2 w1.heap.size [ptr sb] 31:=by rw [hw2]; exact Cel.new w1 #[ptr sb] 31
 have hB2:=hB.below hb2
 have LD:=load_any hB2.dev
 obtain ⟨gen,hgen⟩:∃ gen,gen=(loadV D).1:=⟨_,rfl⟩
 have hgb:gen≤4611686018427387904:=by rw [hgen]; exact loadV_gen D
 obtain ⟨lc,hlc⟩:∃ lc,lc=(loadV D).2.2:=⟨_,rfl⟩
 unfold Loads at LD
 rw [← hgen, ← hlc] at LD
 have HA:=Lib.hid (anZ hB2 (anZ hbx (anZ hb1 (anZ hb2 (anZ l1 (anZ l2 (anZ l3 (anZ l4 (anZ hgb (anZ hB.lt hB.tlt))))))))))
 have HW:=Lib.hid hw2.symm
 clear hB l1 l2 l3 l4 hb1 hb2 hbx hB2 hgen hlc hgb hw2
 go_wp2_with fail
 rw [HW.out]
 refine LD.mono ?_
 rintro e w3 ⟨v,rfl,hnew,hb3⟩
 clear LD
 obtain ⟨va,vc,rfl, -⟩:=hnew.1.shape
 obtain ⟨vn,hvn⟩:∃ vn,vn=(loadV D).2.1.length:=⟨_,rfl⟩
 rw [← hvn]
 clear hnew hvn
 obtain ⟨w4,hw4⟩:∃ w4,w4=w3.alloc (.cells #[.int .u64 (gen:Int)] 73):=⟨_,rfl⟩
 have e3:w1.heap.size < w3.heap.size:=Nat.lt_of_lt_of_le HA.out.2.1.lt hb3.size
 have hb4:Below w3.heap.size w3 w4:=by rw [hw4]; exact (Below.refl _ _).alloc (Nat.le_refl _) _
 have hgc:Cel w4 w3.heap.size [.int .u64 (gen:Int)] 73:=by rw [hw4]; exact Cel.new w3 _ _
 have e4:w4.heap.size=w3.heap.size+1:=by rw [hw4]; simp
 have hlitr:=World.ownsRow_lit (base:=0) (e:=46) (size:=1) w4 ((newL w1.heap.size w3.heap.size).map Fv.v).toArray 4 (Nat.zero_le _) (by decide) rfl
 rw [e4] at hlitr
 obtain ⟨w5,hw5⟩:∃ w5,w5=w4.alloc (.cells ((newL w1.heap.size w3.heap.size).map Fv.v).toArray 46):=⟨_,rfl⟩
 rw [← hw5] at hlitr
 have hb5:Below w4.heap.size w4 w5:=by rw [hw5]; exact (Below.refl _ _).alloc (Nat.le_refl _) _
 have e5:w5.heap.size=w3.heap.size+2:=by rw [hw5]; simp; omega
 have hro:Ro kdFn 46 w5 (fun q=>(Value.slice (some ⟨w3.heap.size+1,0,none⟩) 4 4).ownBlock=some q) (.slice (some ⟨w3.heap.size+1,0,none⟩) 4 4) (newL w1.heap.size w3.heap.size):=⟨newL w1.heap.size w3.heap.size,rfl,hlitr,fun _ _=>trivial,fun q h=>h⟩
 have hb35:=hb4.trans (hb5.mono hb4.size)
 have hb25:=hb3.trans (hb35.mono hb3.size)
 have hB5:=HA.out.1.below hb25
 have hbx5:=HA.out.2.1.below hb25 HA.out.2.1.lt
 have hgc5:=hgc.below hb5 hgc.lt
 have c0:w3.cell? ⟨w1.heap.size,0,none⟩=some (ptr sb):=(HA.out.2.1.below hb3 HA.out.2.1.lt).cell 0
 have SA:=saving_any sb w5 (S:=BS sb mb F G) hB5.lt
 have HB:=Lib.hid (anZ hB5 (anZ hbx5 (anZ hgc5 (anZ hro (anZ e3 (anZ e5 hb25))))))
 rw [hw5,hw4] at SA
 have HW5:=Lib.hid (show w5=_ from hw5.trans (by rw [hw4]))
 have en1:¬ w1.heap.size=w3.heap.size:=by omega
 have en2:¬ w1.heap.size=w3.heap.size+1:=by omega
 clear hb3 hw4 hb4 hgc e4 hlitr hw5 hb5 e5 hro hb35 hb25 hB5 hbx5 hgc5
 go_wp2_with fail
 refine SA.mono ?_
 clear SA c0
 rw [← HW5.out]
 rintro e w6 ⟨lv,bs,pgb,rfl,hrd,hbs,hpb,hl1,hl2,hne,hb6,hro6,hown6⟩
 obtain ⟨hB5,hbx5,hgc5,hro,e3',e5,hb25⟩:=HB.out
 obtain ⟨hB2,hbx,hb1,hb2,l1,l2,l3,l4,hgb,hlt0,htl0⟩:=HA.out
 obtain ⟨v',w7,hrun,ro7,st7, -,lo7⟩:=run_append_ro fn_ty 82 (hro.below hb6) (ro_fn (T:=fun q=>(Value.slice (some ⟨w3.heap.size+1,0,none⟩) 4 4).ownBlock=some q) hro6 fun q hq ht=>by
   have e:q=w3.heap.size+1:=by cases ht; rfl
   have:=(hown6 _ hq).1
   omega) (by show 4+5≤4294967296; decide)
 have hk:∀ q,¬ q=w3.heap.size+1→¬ (Value.slice (some ⟨w3.heap.size+1,0,none⟩) 4 4).ownBlock=some q:=fun q hq h=>hq (by cases h; rfl)
 have hB7:=(hB5.below hb6).only st7.only (hk _ (by omega)) fun q hq=>hk q (by have:=hlt0 q hq; omega)
 have c1':=(hbx5.below hb6 hbx5.lt).only st7.only (hk _ (by omega))
 have c2':=(hgc5.below hb6 hgc5.lt).only st7.only (hk _ (by omega))
 have c3':=hbs.only st7.only (hk _ (by omega))
 have c4':=hpb.only st7.only (hk _ (by omega))
 have hout:∀ q,w1.heap.size≤q→¬ BS sb mb F G q:=fun q hq hs=>by have:=hlt0 q hs; omega
 have hs2:=hb2.size
 have hs6:=hb6.size
 have hrow7:Rd kdFn w7 (fun q=>BS sb mb F G q∨q=pgb) v' (newL w1.heap.size w3.heap.size++savL bs pgb):=ro_fn ro7 fun q hq ht=>by
  have hq2:q=w3.heap.size+1∨q=w6.heap.size:=by
   rcases lo7 with e | e
   ·rw [e] at hq; cases hq; exact .inl rfl
   ·rw [e] at hq; cases hq; exact .inr rfl
  rcases ht with ht | ht
  ·exact hout q (by omega) ht
  ·have:=hpb.lt; omega
 have RUN:=run_new hB7 HH.out.2.1 HH.out.2.2.1 HH.out.2.2.2.1 HH.out.2.2.2.2.1 HH.out.2.2.2.2.2 hgb c1' c2' c3' c4' (fun h=>h.elim (hout _ (Nat.le_refl _)) (by omega)) (fun h=>h.elim (hout _ (by omega)) (by omega)) (fun h=>h.elim (hout _ (by omega)) hne) (hout _ (by omega)) hrow7
 obtain ⟨ua,uc,rfl, -⟩:=hrow7.shape
 obtain ⟨un,hun⟩:∃ un,un=(newL w1.heap.size w3.heap.size++savL bs pgb).length:=⟨_,rfl⟩
 rw [← hun] at RUN hrun
 obtain ⟨ln,hln⟩:∃ ln,ln=(savL bs pgb).length:=⟨_,rfl⟩
 obtain ⟨la,lcc,rfl, -⟩:=hrd.shape
 rw [← hln] at hrun
 rw [← hln]
 have hst7:Step F w w7 (fun q=>BS sb mb F G q∨q=pgb):=by
  have ha:=hb1.trans ((hb2.trans (hb25.mono hb2.size)).mono hb1.size)
  have hb:=ha.trans (hb6.mono ha.size)
  have hs1:=hb1.size
  refine ⟨(Only.of_below hb F).then st7.only fun q hq=>by cases hq; exact .inr (by show w.heap.size≤w3.heap.size+1; omega),fun q hq=>?_⟩
  rcases hq with (e | e | hq | hq) | e
  ·exact .inr (by omega)
  ·exact .inr (by omega)
  ·exact .inl hq
  ·exact .inr (l4 q hq)
  ·exact .inr (by omega)
 have HC:=Lib.hid (anZ c1' (anZ hst7 (show ¬ (BS sb mb F G w1.heap.size∨w1.heap.size=pgb) from fun h=>h.elim (hout _ (Nat.le_refl _)) (by omega))))
 clear hB5 hbx5 hgc5 hro e3' e5 hb25 hB2 hbx hb1 hb2 l1 l2 l3 l4 hgb hlt0 htl0 ro7 st7 lo7 hk hB7 c1' c2' c3' c4' hout hs2 hs6 hrow7 hun hln hst7 hrd hbs hpb hl1 hl2 hne hb6 hro6 hown6
 go_wp2_with (at_builtin; refine klist_append_run rfl (.tmp 30) (.tmp 32) _ rfl rfl rfl hrun ?_)
 clear hrun
 refine RUN.mono ?_
 clear RUN
 rintro e w8 (⟨rfl,jb,D',ps,J,g,F',G',hA,hL,hlf,hbl,hst⟩ | ⟨c, -, -,hF⟩)
 case inr=>exact hF.elim
 have c0:w8.cell? ⟨w1.heap.size,0,none⟩=some (ptr sb):=(HC.out.1.only hst.only HC.out.2.2).cell 0
 have HE:=Lib.hid (anZ (show Sto w8 sb db D' [] (n+400) 1 (AS sb jb mb F' G') from ⟨_,_,_,_,_,_,_,_,_,hA,rfl,hL⟩) (anZ hlf (anZ hbl ((HC.out.2.1.trans hst).weak fun q (hq:AS sb jb mb F' G' q)=>.inl hq))))
 clear hA hL hlf hbl hst
 go_wp2
 go_ret2
 exact ⟨sb,D',_,rfl,HE.out⟩
end
end Go.Proofs.YtgkofgifoiinkaaGreat
namespace Go.Proofs.YtgkofgifoiinkaaGreat
open Go.RowKit
section
variable {w1:World} {sb db pb tb mb b1 rb g':Nat} {D:Dv} {F G:Nat→Prop} {l:Bytes} {c:Int} {ps:List Pg}
theorem run_none (h:StB w1 sb db pb tb mb (.pointer none) D ps 0 false [] F G) (hv:loadV D=(g',l,c)) (hc:c≠0) (hb1:Cel w1 b1 [ptr sb] 31) (hrb:Cel w1 rb [.int .i64 0, .int .i64 0, .int .u64 0] 80)
  {lv:Value} {S:Nat→Prop} (hrow:Rd kdFn w1 S lv (opnL b1 rb)) :
  Calls Tryz.prog 41 #[lv] w1 (Ran (fun _=>False) fun c' w'=>c'=c∧Only (fun q=>q=rb) w1 w'):=by
 refine srun_chain (Keep:=fun w=>w=w1∨False) (A:=fun w=>w=w1) (l:=opnL b1 rb) ?_ rfl (fun w' hk=>hk.elim (fun e=>⟨S,by rw [e]; exact hrow⟩) fun h=>h.elim) (by show 3≤1000; decide)
 refine ⟨fun w e=>.inl e,enters_of Tryz.func60 (by kernel_rfl) rfl,fun _=>False,?_,⟨fun _ h=>h.elim,enters_of Tryz.func62 (by kernel_rfl) rfl,fun _=>False,fun _ h=>h.elim,⟨fun _ h=>h.elim,enters_of Tryz.func64 (by kernel_rfl) rfl,fun _=>False,fun _ h=>h.elim,fun _ h=>h.elim⟩⟩⟩
 intro w e
 obtain rfl:w=w1:=e
 have LD:=sload_none h hv hc
 refine (cl_load (pg:=0) (a:=0) (s:=0) hb1 (Q:=fun w'=>Below w.heap.size w w') LD (fun w' hq=>hrb.below hq hrb.lt)).mono ?_
 rintro e w2 ⟨rfl,w',hb,rfl⟩
 refine .inr ⟨c,hc,rfl,rfl,(Only.of_below hb fun q=>q=rb).trans ?_⟩
 exact (((Only.refl (fun q=>q=rb) w').setCell (p:=⟨rb,0,none⟩) (.inl rfl) _).setCell (p:=⟨rb,1,none⟩) (.inl rfl) _).setCell (p:=⟨rb,2,none⟩) (.inl rfl) _
end
section
variable {w:World} {db g':Nat} {D:Dv} {F:Nat→Prop} {l:Bytes} {c:Int}
set_option maxHeartbeats 2000000 in
theorem stopen_none (h:Dev w db D F) (ho:D.on=true) (hlen:442≤D.bk.length) (hv:loadV D=(g',l,c)) (hc:c≠0) (hc8:c≠8):Calls Tryz.prog 19 #[ptr db] w fun e w'=>e = .returned (.tuple #[.pointer none,err 4])∧Below w.heap.size w w':=by
 have OV:=sover_any h ho hlen
 have HH:=Lib.hid (anZ h (anZ ho hv))
 clear h ho hlen hv
 go_enter Tryz.func19,Tryz.ntmps19
 go_wp2_with fail
 refine OV.mono ?_
 rintro e w1 ⟨sb,pb,tb,mb,G,rfl,hB,⟨l1,l2,l3,l4⟩,hb1⟩
 clear OV
 obtain ⟨w2,hw2⟩:∃ w2,w2=(w1.alloc (.cells #[ptr sb] 31)).alloc (.cells #[.int .i64 0, .int .i64 0, .int .u64 0] 80):=⟨_,rfl⟩
 have hb2:Below w1.heap.size w1 w2:=by rw [hw2]; exact ((Below.refl _ _).alloc (Nat.le_refl _) _).alloc (by simp) _
 have hbx:Cel w2 w1.heap.size [ptr sb] 31:=by rw [hw2]; exact (Cel.new w1 #[ptr sb] 31).alloc _
 have hrb:Cel w2 (w1.heap.size+1) [.int .i64 0, .int .i64 0, .int .u64 0] 80:=by
  rw [hw2]
  have h3:=Cel.new (w1.alloc (.cells #[ptr sb] 31)) #[.int .i64 0, .int .i64 0, .int .u64 0] 80
  have e3:(w1.alloc (.cells #[ptr sb] 31)).heap.size=w1.heap.size+1:=by simp
  rw [e3] at h3
  exact h3
 have hsz2:w2.heap.size=w1.heap.size+2:=by rw [hw2]; simp
 have hlit:=rd_lit kdFn w2 46 (fun _=>False) (fun _ h=>h.elim) (opnL w1.heap.size (w1.heap.size+1)) ((opnL w1.heap.size (w1.heap.size+1)).map Fv.v).toArray rfl (fun _ _=>trivial) (show 3≤1000 by decide) (n:=3) rfl
 rw [hsz2] at hlit
 obtain ⟨w3,hw3⟩:∃ w3,w3=w2.alloc (.cells ((opnL w1.heap.size (w1.heap.size+1)).map Fv.v).toArray 46):=⟨_,rfl⟩
 rw [← hw3] at hlit
 have hb3:Below w2.heap.size w2 w3:=by rw [hw3]; exact (Below.refl _ _).alloc (Nat.le_refl _) _
 have RUN:=run_none ((hB.below hb2).below hb3) HH.out.2.2 hc (hbx.below hb3 hbx.lt) (hrb.below hb3 hrb.lt) hlit
 have hb13:=hb2.trans (hb3.mono hb2.size)
 rw [hw3,hw2] at RUN hb13
 have HA:=Lib.hid (anZ hb1 hb13)
 clear hB l1 l2 l3 l4 hb1 hb2 hbx hrb hlit hb3 hw2 hw3 hsz2 hb13
 have hc1:¬ c=0:=hc
 have hc2:¬ c=8:=hc8
 clear hc hc8
 go_wp2_with fail
 refine RUN.mono ?_
 clear RUN
 rintro e w4 (⟨-,hF⟩ | ⟨c', -,rfl,rfl,ho4⟩)
 case inl=>exact hF.elim
 have hs1:=HA.out.1.size
 have hbe:Below w.heap.size w w4:=(HA.out.1.trans (HA.out.2.mono hs1)).trans (ho4.below (B:=w.heap.size) (Nat.le_trans hs1 HA.out.2.size) (fun q e=>by omega))
 have HE:=Lib.hid hbe
 clear hbe hs1 ho4
 go_wp2
 go_ret2
 exact ⟨rfl,HE.out⟩
end
end Go.Proofs.YtgkofgifoiinkaaGreat
namespace Go.Proofs.YtgkofgifoiinkaaGreat
open Go.RowKit
structure ComAt (w:World) (T0:Nat→Prop) (sb b1 rb lb:Nat) (rv lv:Value) (l:List Wr):Prop where
 b:Cel w b1 [ptr sb] 31
 bo:¬ T0 b1
 r:Cel w rb [rv] 24
 ro:¬ T0 rb
 v:Bs w rv (recL l)
 vo:∀ q,rv.ownBlock=some q→¬ T0 q∧q < w.heap.size
 lc:Cel w lb [lv] 39
 lo:¬ T0 lb
 rd:Rd kdWr w T0 lv l
section
variable {w:World} {T0:Nat→Prop} {sb db pb tb jb mb b1 rb lb pgb n m n' m':Nat} {rv lv rowv:Value} {l:List Wr} {D:Dv} {ps:List Pg} {J:Jn} {g:Nat} {P:List Pr} {F G:Nat→Prop}
theorem run_com (hA:StA w sb db pb tb jb mb D ps J g false P F G) (hL:Lv D ps J g P n m) (hC:ComAt w (AS sb jb mb F G) sb b1 rb lb rv lv l) (hrow:Rd kdFn w (AS sb jb mb F G) rowv (comL b1 rb lb)) (hl:ComOk l∧l.length≤1000)
  (hr:J.ahead+nBlocks (recL l).length≤360) (hb:bytesP (doneC P l)≤roomN D.bk.length) (hn:n≤950000) (hm:m+1≤4000000) (hn':n+345≤n') (hm':m+1≤m') :
  Calls Tryz.prog 41 #[rowv] w (Ran (At w (AS sb jb mb F G) (fun _=>False) sb db pb tb jb mb false (doneC P l) fun D' ps' J' g' _=>Aft D (doneC P l) n' m' D' ps' J' g') (BadW w (AS sb jb mb F G) (fun _=>False) sb db pb tb jb mb false (BadD D P (doneC P l) n' m'))):=by
 refine srun_chain (chain_append (X:=fun _=>False) (A4:=fun D' ps' J' g'=>D'=D∧ps'=ps∧J'=J∧g'=g) hC.b hC.bo hC.r hC.ro hC.v hC.vo hC.lc hC.lo hC.rd hl.1.1 hl.2 ⟨hL.ok,by have:=hL.few; omega⟩ ?_) ⟨D,ps,J,g,F,G,hA,(fun q h=>h.elim),⟨Only.refl _ _,fun q hq=>hq.elim .inl fun h=>h.elim⟩,rfl,rfl,rfl,rfl⟩ (fun _ hk=>hk.rd hrow) (by show 2≤1000; decide)
 rintro D' ps' J' g' ⟨rfl,rfl,rfl,rfl⟩
 exact hL.mayApp hl hr hb hn hm ⟨id,rfl⟩ hn' hm'
theorem run_both (hA:StA w sb db pb tb jb mb D ps J g false P F G) (hL:Lv D ps J g P n m) (hC:ComAt w (fun q=>AS sb jb mb F G q∨q=pgb) sb b1 rb lb rv lv l) {bs:Nat} (hbs:Cel w bs [ptr sb] 31) (hbo:¬ AS sb jb mb F G bs) (hne:bs≠pgb) (hpb:Cel w pgb [.int .i64 0] 3) (hpo:¬ AS sb jb mb F G pgb)
  (hrow:Rd kdFn w (fun q=>AS sb jb mb F G q∨q=pgb) rowv (savL bs pgb++comL b1 rb lb)) (hl:ComOk l∧l.length≤1000) (hb:bytesP (doneC P l)≤roomN D.bk.length) (hn:n≤900000) (hm:m+2≤4000000) (hn':n+4348≤n') (hm':m+2≤m') :
  Calls Tryz.prog 41 #[rowv] w (Ran (At w (fun q=>AS sb jb mb F G q∨q=pgb) (fun q=>q=pgb) sb db pb tb jb mb false (doneC P l) fun D' ps' J' g' _=>Aft D (doneC P l) n' m' D' ps' J' g') (BadW w (fun q=>AS sb jb mb F G q∨q=pgb) (fun q=>q=pgb) sb db pb tb jb mb false (BadD D P (doneC P l) n' m'))):=by
 obtain ⟨pg0,a,s,P0,pgs0,C,hd,H⟩:=hL.phs hn (by omega)
 have H':=H.weak (Bad':=BadD D P (doneC P l) n' m') fun D' ⟨k1,k2,k3⟩=>⟨k1,k2,(k3.left _).more (by omega) (by omega)⟩
 have hrl:=recL_blocks hl.1.1 hl.2
 have hjj:J.fr=2∧J.size=360∧g≤m∧markS J≤m:=by
  obtain ⟨_,_,_,_,_,C',k1,k2,k3,k4,⟨k5,k6,_,k8⟩,k9,k10⟩:=hL
  refine ⟨k5,k6,k9,?_⟩
  unfold markS
  rw [k8,k4.held,List.length_map]
  exact k10
 have hsav:=chain_saving (T0:=fun q=>AS sb jb mb F G q∨q=pgb) (sb:=sb) (db:=db) (pb:=pb) (tb:=tb) (jb:=jb) (mb:=mb) H' hbs (fun hq=>hq.elim hbo hne) (.inr rfl)
 have happ:=chain_append (db:=db) (pb:=pb) (tb:=tb) (jb:=jb) (mb:=mb) (P:=P) (X:=fun q=>q=pgb) (A4:=fun D' ps' J' g'=>J'=J.gone∧g'=g+1∧∃ ps2,ps'=settledP ps2∧A3 D J g C P n D' ps2) (A5:=Aft D (doneC P l) n' m') (Bad:=BadD D P (doneC P l) n' m')
  hC.b hC.bo hC.r hC.ro hC.v hC.vo hC.lc hC.lo hC.rd hl.1.1 hl.2 ⟨hL.ok,by have:=hL.few; omega⟩ (by
   rintro D' ps' J' g' ⟨rfl,rfl,ps2,rfl,h3⟩
   have hL2:=h3.lives (m:=m) ⟨hjj.1,hjj.2.1⟩ hjj.2.2
   exact hL2.mayApp hl (by show 0+_≤360; omega) (by rw [h3.2.2.1]; exact hb) (by omega) (by omega) ⟨h3.2.1,h3.2.2.1⟩ (by omega) (by omega))
 exact srun_chain (hsav.append happ) ⟨D,ps,J,g,F,G,hA,(fun q e=>by subst e; exact ⟨hpo,hpb.lt⟩),Step.refl _ _,rfl,rfl,rfl,rfl,0,hpb⟩ (fun _ hk=>hk.rd hrow) (by show 7≤1000; decide)
end
end Go.Proofs.YtgkofgifoiinkaaGreat
