/- What Save and Load answer and leave, in plain words, and what is found when the power went; no condition. -/
import Derived.Test.YtgkofgifoiinkaaGreatN18
import Derived.Test.YtgkofgifoiinkaaGreatN02
import Derived.Test.YtgkofgifoiinkaaGreatN05
import Derived.Test.YtgkofgifoiinkaaGreatN01
import Derived.Test.YtgkofgifoiinkaaGreatN11
namespace Go.Proofs.YtgkofgifoiinkaaGreat
open Go.RowKit Go.Maps
structure WT where
 k:Sl
 v:Sl
 x:Wr
def kdWr:Kd WT Wr where
 sz:=3
 pos:=by decide
 cs t:=[t.k.v,t.v.v, .bool t.x.gone]
 len _:=rfl
 one t u hu:=by
  simp only [List.mem_cons,List.not_mem_nil,or_false] at hu
  rcases hu with rfl | rfl | rfl <;> rfl
 con t:=t.x
 ok w S t:=Bsf w S t.k.v t.x.key∧Bsf w S t.v.v t.x.val
 step h hs:=⟨h.1.step hs,h.2.step hs⟩
theorem wr_ty:RowTy Tryz.prog kdWr 39 61:=RowTy.of (z:=.agg #[.slice none 0 0, .slice none 0 0, .bool false]) (by':=56) Tryz.underlying39 (by kernel_rfl) rfl (by decide)
section
variable {w w':World} {S:Nat→Prop} {v:Value}
theorem Rd.wr {l:List Wr} (h:Rd kdWr w S v l) {i:Nat} {x:Wr} (hx:l[i]? = some x):∃ g o cap ka kc va vc,v = .slice (some ⟨g,o,none⟩) l.length cap∧g < w.heap.size ∧
  w.cell? ⟨g,o+i*3,none⟩=some (.slice ka x.key.length kc)∧w.cell? ⟨g,o+i*3+1,none⟩=some (.slice va x.val.length vc)∧w.cell? ⟨g,o+i*3+2,none⟩=some (.bool x.gone) ∧
  Bsf w S (.slice ka x.key.length kc) x.key∧Bsf w S (.slice va x.val.length vc) x.val:=by
 obtain ⟨g,o,cap,⟨⟨ka,kn,kc⟩,⟨va,vn,vc⟩,x'⟩,h1,h2,h3,h4,h5,_⟩:=h.at hx
 have h2:x'=x:=h2
 subst h2
 obtain ⟨h6,h7⟩:=h3
 obtain ⟨_,_,e1,_⟩:=h6.1.shape
 obtain ⟨_,_,e2,_⟩:=h7.1.shape
 simp only [Sl.v,Value.slice.injEq] at e1 e2
 obtain ⟨_,rfl,_⟩:=e1
 obtain ⟨_,rfl,_⟩:=e2
 exact ⟨g,o,cap,ka,kc,va,vc,h1,h4,h5 0 _ rfl,h5 1 _ rfl,h5 2 _ rfl,h6,h7⟩
end
theorem lookP_ok {P:List Pr} (h:∀ p∈P,PrOk p) {k v:Bytes} (hl:lookP P k=some v):v.length≤128:=by
 unfold lookP at hl
 obtain ⟨p,hp,rfl⟩:=Option.map_eq_some_iff.1 hl
 exact (h p (List.mem_of_find?_eq_some hp)).2
section
variable {w:World} {sb mb:Nat} {P:List Pr} {kv vv:Value} {x:Wr}
set_option maxHeartbeats 1000000 in
theorem gain_any (c5:w.cell? ⟨sb,5,none⟩=some (.map (some mb))) (hm:SMap w mb P) (hp:∀ p∈P,PrOk p) (hx:WrOk x) (hk:Bs w kv x.key) (hv:Bs w vv x.val) :
  Calls Tryz.prog 85 #[ptr sb, .agg #[kv,vv, .bool x.gone]] w fun e w'=>e = .returned (.int .i64 (gainW P x))∧Below w.heap.size w w':=by
 obtain ⟨ka,kc,rfl,_⟩:=hk.shape
 obtain ⟨va,vc,rfl,_⟩:=hv.shape
 obtain ⟨kn,hkn⟩:∃ kn,kn=x.key.length:=⟨_,rfl⟩
 obtain ⟨vn,hvn⟩:∃ vn,vn=x.val.length:=⟨_,rfl⟩
 rw [← hkn] at hk ⊢
 rw [← hvn] at hv ⊢
 have hk32:kn≤32:=by rw [hkn]; exact hx.1.1.2
 have hv128:vn≤128:=by rw [hvn]; exact hx.1.2
 have hk32':(kn:Int)≤32:=by omega
 have hv128':(vn:Int)≤128:=by omega
 have hb:Below w.heap.size w (w.alloc (.cells #[.slice ka kn kc, .slice va vn vc, .bool x.gone] 61)):=(Below.refl _ _).alloc (Nat.le_refl _) _
 have C:=Cel.new w #[.slice ka kn kc, .slice va vn vc, .bool x.gone] 61
 have k0:(w.alloc (.cells #[.slice ka kn kc, .slice va vn vc, .bool x.gone] 61)).cell? ⟨w.heap.size,0,none⟩=some (.slice ka kn kc):=C.cell 0
 have k1:(w.alloc (.cells #[.slice ka kn kc, .slice va vn vc, .bool x.gone] 61)).cell? ⟨w.heap.size,1,none⟩=some (.slice va vn vc):=C.cell 1
 have k2:(w.alloc (.cells #[.slice ka kn kc, .slice va vn vc, .bool x.gone] 61)).cell? ⟨w.heap.size,2,none⟩=some (.bool x.gone):=C.cell 2
 have k5:(w.alloc (.cells #[.slice ka kn kc, .slice va vn vc, .bool x.gone] 61)).cell? ⟨sb,5,none⟩=some (.map (some mb)):=(hb.cell (p:=⟨sb,5,none⟩) (World.block_lt_of_cell? w _ c5)).trans c5
 have t1:=fun m=>run_string_bs bt (d:=9) Tryz.underlying9 ((w.alloc (.cells #[.slice ka kn kc, .slice va vn vc, .bool x.gone] 61)).drewN m) ((hk.below hb).kept fun _ _ hu=>hu)
 have t2:=fun m=>((hm.below hb).kept (w':=(w.alloc (.cells #[.slice ka kn kc, .slice va vn vc, .bool x.gone] 61)).drewN m) rfl).look (k:=x.key) (by unfold maxLen; omega)
 have hg:gainW P x=(wrN x:Int)-(wasN P x.key:Int):=rfl
 rw [hg]
 have hwr:(wrN x:Int)=if x.gone=true then 0 else 4+(kn:Int)+(vn:Int):=by
  unfold wrN
  split <;> simp [hkn,hvn]
 have hdn:∀ m,Below w.heap.size w ((w.alloc (.cells #[.slice ka kn kc, .slice va vn vc, .bool x.gone] 61)).drewN m):=fun m=>below_drewN hb m
 have HD:=Lib.hid hdn
 generalize hG:x.gone=gone at *
 rcases hl:lookP P x.key with _ | v0
 ·have hwas:wasN P x.key=0:=by unfold wasN; rw [hl]
  rw [hwas,hwr]
  rw [hl] at t2
  simp only [Option.getD_none,Option.isSome_none] at t2
  clear hl hwas hwr hg hm hp hx hk hv hb C hkn hvn hdn hG c5
  cases gone
  ·simp only [Bool.false_eq_true,if_false]
   go_enter Tryz.func85,Tryz.ntmps85
   go_wp2
   go_quiet (fail)
   clear t1 t2
   go_wp2
   go_ret
   refine ⟨congrArg (fun z=>Ending.returned (.int .i64 z)) (show (4+(kn:Int)+(vn:Int):Int)=_ from ?_),HD.out _⟩
   omega
  ·simp only [if_true]
   go_enter Tryz.func85,Tryz.ntmps85
   go_wp2
   go_quiet (fail)
   clear t1 t2
   go_wp2
   go_ret
   refine ⟨congrArg (fun z=>Ending.returned (.int .i64 z)) (show (0:Int)=_ from ?_),HD.out _⟩
   omega
 ·have h128:=lookP_ok hp hl
  have hwas:wasN P x.key=4+kn+v0.length:=by unfold wasN; rw [hl]; simp only; omega
  rw [hwas,hwr]
  rw [hl] at t2
  simp only [Option.getD_some,Option.isSome_some] at t2
  have h128':(v0.length:Int)≤128:=by omega
  have hsz:(ByteArray.mk v0.toArray).size=v0.length:=by simp [ByteArray.size]
  clear hl hwas hwr hg hm hp hx hk hv hb C hkn hvn hdn hG c5
  cases gone
  ·simp only [Bool.false_eq_true,if_false]
   go_enter Tryz.func85,Tryz.ntmps85
   go_wp2
   go_quiet (fail)
   clear t1 t2
   go_wp2
   go_ret
   refine ⟨congrArg (fun z=>Ending.returned (.int .i64 z)) (show (-(4+(kn:Int)+(v0.length:Int))+(4+(kn:Int)+(vn:Int)):Int)=_ from ?_),HD.out _⟩
   omega
  ·simp only [if_true]
   go_enter Tryz.func85,Tryz.ntmps85
   go_wp2
   go_quiet (fail)
   clear t1 t2
   go_wp2
   go_ret
   refine ⟨congrArg (fun z=>Ending.returned (.int .i64 z)) (show (-(4+(kn:Int)+(v0.length:Int)):Int)=_ from ?_),HD.out _⟩
   omega
end
def stL (dv pv tv jv:Value) (g mb:Nat) (bn:Int) (dead:Bool):List Value:=[dv,pv,tv,jv, .int .u64 (g:Int), .map (some mb), .int .i64 bn, .bool dead]
def StC (w:World) (sb:Nat) (dv pv tv jv:Value) (g mb:Nat) (bn:Int) (dead:Bool):Prop:=Cel w sb (stL dv pv tv jv g mb bn dead) 90
section
variable {w w':World} {sb g mb:Nat} {dv pv tv jv:Value} {bn:Int} {dead:Bool}
theorem StC.cells (h:StC w sb dv pv tv jv g mb bn dead):w.cell? ⟨sb,0,none⟩=some dv∧w.cell? ⟨sb,1,none⟩=some pv∧w.cell? ⟨sb,2,none⟩=some tv∧w.cell? ⟨sb,3,none⟩=some jv∧w.cell? ⟨sb,4,none⟩=some (.int .u64 (g:Int)) ∧
  w.cell? ⟨sb,5,none⟩=some (.map (some mb))∧w.cell? ⟨sb,6,none⟩=some (.int .i64 bn)∧w.cell? ⟨sb,7,none⟩=some (.bool dead):=by
 refine ⟨?_,?_,?_,?_,?_,?_,?_,?_⟩ <;> rw [Cel.cell h] <;> rfl
theorem StC.frozen (h:StC w sb dv pv tv jv g mb bn dead) (i:Nat):w.frozen? ⟨sb,i,none⟩=false:=Cel.frozen h i
theorem StC.kept (h:StC w sb dv pv tv jv g mb bn dead) (hk:w'.heap[sb]? = w.heap[sb]?):StC w' sb dv pv tv jv g mb bn dead:=Cel.kept h hk
theorem StC.lt (h:StC w sb dv pv tv jv g mb bn dead):sb < w.heap.size:=Cel.lt h
theorem StC.below (h:StC w sb dv pv tv jv g mb bn dead) (hb:Below w.heap.size w w'):StC w' sb dv pv tv jv g mb bn dead:=h.kept (hb.block sb h.lt)
theorem StC.setBytes (h:StC w sb dv pv tv jv g mb bn dead) (n:Int):StC (w.setCell ⟨sb,6,none⟩ (.int .i64 n)) sb dv pv tv jv g mb n dead:=Cel.set h 6 _
theorem StC.setJ (h:StC w sb dv pv tv jv g mb bn dead) (v:Value):StC (w.setCell ⟨sb,3,none⟩ v) sb dv pv tv v g mb bn dead:=Cel.set h 3 _
theorem StC.setGen (h:StC w sb dv pv tv jv g mb bn dead) (n:Nat):StC (w.setCell ⟨sb,4,none⟩ (.int .u64 (n:Int))) sb dv pv tv jv n mb bn dead:=Cel.set h 4 _
theorem StC.setDead (h:StC w sb dv pv tv jv g mb bn dead) (d:Bool):StC (w.setCell ⟨sb,7,none⟩ (.bool d)) sb dv pv tv jv g mb bn d:=Cel.set h 7 _
end
end Go.Proofs.YtgkofgifoiinkaaGreat
namespace Go.Proofs.YtgkofgifoiinkaaGreat
open Go.RowKit Go.Maps
theorem gainW_le {P:List Pr} (h:∀ p∈P,PrOk p) {x:Wr} (hx:WrOk x) : -164≤gainW P x∧gainW P x≤164:=by
 have h1:=wasN_le h x.key
 have h2:=wrN_le hx
 unfold gainW
 omega
theorem gainC_le {P:List Pr} (h:∀ p∈P,PrOk p):∀ {l:List Wr},(∀ x∈l,WrOk x) → -(164*(l.length:Int))≤gainC P l∧gainC P l≤164*(l.length:Int)
 | [],_=>by simp [gainC]
 | x::r,hl=>by
  have h1:=gainC_le h (l:=r) fun y hy=>hl y (List.mem_cons_of_mem _ hy)
  have h2:=gainW_le h (hl x List.mem_cons_self)
  unfold gainC at h1 ⊢
  rw [List.map_cons,List.sum_cons,List.length_cons]
  omega
section
variable {w:World} {sb mb g:Nat} {P:List Pr} {lv:Value} {l:List Wr} {S:Nat→Prop} {dv pv tv jv:Value} {dead:Bool}
set_option maxHeartbeats 1000000 in
theorem smore_any (c5:w.cell? ⟨sb,5,none⟩=some (.map (some mb))) (hm:SMap w mb P) (hp:∀ p∈P,PrOk p) (h:Rd kdWr w S lv l) (hl:∀ x∈l,WrOk x) (hn:l.length≤100000) :
  Calls Tryz.prog 44 #[ptr sb,lv] w fun e w'=>e = .returned (.int .i64 (gainC P l))∧Below w.heap.size w w':=by
 obtain ⟨la,lc,rfl,_⟩:=h.shape
 obtain ⟨n,hnn⟩:∃ n,n=l.length:=⟨_,rfl⟩
 rw [← hnn] at h hn ⊢
 have HH:=Lib.hid (anZ h (anZ hnn (anZ hm (anZ hp (anZ hl c5)))))
 clear h hnn hm hp hl c5
 go_enter Tryz.func44,Tryz.ntmps44
 go_wp2
 go_loopw [5,10] (fun s i wr=>∃ r:Nat,r≤n∧i = .int .i64 (r:Int)∧s = .int .i64 (gainC P (l.take r))∧Below w.heap.size w wr) (fun _ i _=>n-(intOf i).toNat)
 case atStart=>exact ⟨0,Nat.zero_le _,rfl,rfl,Below.refl _ _⟩
 case round =>
  obtain ⟨r,hr,rfl,rfl,hb⟩:=hrel
  obtain ⟨h,hnn,hm,hp,hl,c5⟩:=HH.out
  by_cases hlt:r < n
  ·obtain ⟨x,hx⟩:∃ x,l[r]? = some x:=⟨_,List.getElem?_eq_getElem (by omega)⟩
   obtain ⟨gg,o,cap,ka,kc,va,vc,e0,hg,k0,k1,k2,bk,bv⟩:=(h.step (Step.of_below hb S)).wr hx
   rw [← hnn] at e0
   simp only [Value.slice.injEq] at e0
   obtain ⟨rfl, -,rfl⟩:=e0
   have hil:(r:Int) < (n:Int):=by omega
   have hr0:(0:Int)≤(r:Int):=by omega
   have hok:=hl x (List.mem_of_getElem? hx)
   have c5':=(hb.cell (p:=⟨sb,5,none⟩) (World.block_lt_of_cell? w _ c5)).trans c5
   obtain ⟨kn,hkn⟩:∃ kn,kn=x.key.length:=⟨_,rfl⟩
   obtain ⟨vn,hvn⟩:∃ vn,vn=x.val.length:=⟨_,rfl⟩
   obtain ⟨gn,hgn⟩:∃ gn,gn=x.gone:=⟨_,rfl⟩
   have hbx:Below wr.heap.size wr (wr.alloc (.cells #[.slice ka x.key.length kc, .slice va x.val.length vc, .bool x.gone] 61)):=(Below.refl _ _).alloc (Nat.le_refl _) _
   have CB:=Cel.new wr #[.slice ka x.key.length kc, .slice va x.val.length vc, .bool x.gone] 61
   have GA:=gain_any ((hbx.cell (p:=⟨sb,5,none⟩) (World.block_lt_of_cell? wr _ c5')).trans c5') ((hm.below hb).below hbx) hp hok (bk.1.below hbx) (bv.1.below hbx)
   have hs:=gainC_snoc P hx
   have hw1:=gainW_le hp hok
   have hw2:=gainC_le hp (l:=l.take r) fun y hy=>hl y (List.mem_of_mem_take hy)
   rw [List.length_take_of_le (by omega)] at hw2
   rw [← hkn] at k0 bk CB GA hbx
   rw [← hvn] at k1 bv CB GA hbx
   rw [← hgn] at k2 CB GA hbx
   have d0:=CB.cell 0
   have d1:=CB.cell 1
   have d2:=CB.cell 2
   have HB:=Lib.hid (anZ hb (anZ hbx hs))
   generalize hA:gainC P (l.take r)=A at *
   generalize hW:gainW P x=G at *
   clear h hnn hm hp hl c5 c5' hok hbx hx hb bk bv CB hs hkn hvn hgn hA hW
   go_wp2_with fail
   refine GA.mono ?_
   rintro e w2 ⟨rfl,hb2⟩
   clear GA
   have HB2:=Lib.hid hb2
   clear hb2 d0 d1 d2 k0 k1 k2
   go_wp2
   go_roundw
   case rel=>exact ⟨r+1,by omega,by go_num,by rw [HB.out.2.2],(HB.out.1.trans (HB.out.2.1.mono HB.out.1.size)).trans (HB2.out.mono (HB.out.1.trans (HB.out.2.1.mono HB.out.1.size)).size)⟩
   case measure=>simp [intOf]; omega
  ·obtain rfl:r=n:=by omega
   rw [List.take_of_length_le (by omega)]
   have hil:¬ (r:Int) < (r:Int):=by omega
   have HB:=Lib.hid hb
   clear h hnn hm hp hl c5 hb
   go_wp2
   go_ret
   exact ⟨rfl,HB.out⟩
theorem doneC_len {P:List Pr} (l:List Wr):(doneC P l).length≤P.length+l.length:=by
 have h1:∀ (k v:Bytes) (l:List Pr),(putP l k v).length≤l.length+1:=by
  intro k v l
  induction l with
  | nil=>exact Nat.le_refl _
  | cons a t ih =>
   unfold putP
   split
   ·rw [List.length_cons,List.length_cons]; omega
   ·split <;> simp
 induction l generalizing P with
 | nil=>exact Nat.le_refl _
 | cons x r ih =>
  have h2:=ih (P:=doneW P x)
  have h3:(doneW P x).length≤P.length+1:=by
   unfold doneW
   split
   ·have:=List.length_filter_le (fun p:Pr=>p.1 != x.key) P
    unfold cutP
    omega
   ·exact h1 _ _ _
  rw [List.length_cons]
  exact Nat.le_trans h2 (by omega)
theorem wp_delete_run {P:Program} {Q:Exit→Act→World→Prop} {o:Oper} {a:Act} {w w':World} {v mv xv:Value} {K:Act→World→Prop} (m x:Operand) (t k:TypeId) (ho:o.op = .call { callee:=.builtin .delete,args := #[m,x],argTypes := #[t,k] }) (hm:a.eval m=mv) (hx:a.eval x=xv)
  (hr:(Builtin.delete_ #[t,k] o.type #[mv,xv]).run P w = .ok v w') (h:K (a.put o.dst v) w'):Oper.wp P o a w K Q:=by
 unfold Oper.wp
 simp [execOp,ho,resolve,invoke,builtin,hm,hx,hr,Result.andThen]
 exact h
theorem wp_update_run {P:Program} {Q:Exit→Act→World→Prop} {o:Oper} {a:Act} {w w':World} {mv xv vv:Value} {K:Act→World→Prop} (m x v:Operand) (t:TypeId) (ho:o.op = .mapUpdate t m x v) (hm:a.eval m=mv) (hx:a.eval x=xv) (hv:a.eval v=vv)
  (hr:(Instr.mapUpdate t mv xv vv).run P w = .ok () w') (h:K (a.put o.dst undef) w'):Oper.wp P o a w K Q:=by
 unfold Oper.wp
 simp [execOp,ho,hm,hx,hv,hr,Result.andThen]
 exact h
def Does (w:World) (sb:Nat) (dv pv tv jv:Value) (g mb:Nat) (dead:Bool) (P:List Pr) (w':World):Prop:=StC w' sb dv pv tv jv g mb (bytesP P:Nat) dead∧SMap w' mb P∧Only (fun q=>q=sb∨q=mb) w w'
set_option maxRecDepth 100000 in
set_option maxHeartbeats 4000000 in
theorem sdo_any (hc:StC w sb dv pv tv jv g mb (bytesP P:Nat) dead) (hm:SMap w mb P) (hp:okUp P) (hP:P.length≤1000000) (h:Rd kdWr w S lv l) (hsb:S sb) (hmb:S mb) (hl:∀ x∈l,WrOk x) (hn:l.length≤100000) :
  Calls Tryz.prog 53 #[ptr sb,lv] w fun e w'=>e = .returned (.tuple #[])∧Does w sb dv pv tv jv g mb dead (doneC P l) w':=by
 obtain ⟨la,lc,rfl,_⟩:=h.shape
 obtain ⟨n,hnn⟩:∃ n,n=l.length:=⟨_,rfl⟩
 rw [← hnn] at h hn ⊢
 have hne:sb≠mb:=hm.ne hc
 have HH:=Lib.hid (anZ h (anZ hnn (anZ hm (anZ hp (anZ hl (anZ hc (anZ hsb (anZ hmb (anZ hne hP)))))))))
 clear h hnn hm hp hl hc hsb hmb hne hP
 go_enter Tryz.func53,Tryz.ntmps53
 go_wp2
 go_loopw [8] (fun i wr=>∃ r:Nat,r≤n∧i = .int .i64 (r:Int)∧Does w sb dv pv tv jv g mb dead (doneC P (l.take r)) wr) (fun i _=>n-(intOf i).toNat)
 case atStart=>exact ⟨0,Nat.zero_le _,rfl,HH.out.2.2.2.2.2.1,HH.out.2.2.1,Only.refl _ _⟩
 case round =>
  obtain ⟨r,hr,rfl,hcr,hmr,hor⟩:=hrel
  obtain ⟨h,hnn, -,hp,hl, -,hsb,hmb,hne,hP⟩:=HH.out
  by_cases hlt:r < n
  ·obtain ⟨x,hx⟩:∃ x,l[r]? = some x:=⟨_,List.getElem?_eq_getElem (by omega)⟩
   have hst:Step S w wr S:=⟨hor.mono fun q _ hq=>hq.elim (fun e=>e ▸ hsb) (fun e=>e ▸ hmb),fun _ h=>.inl h⟩
   obtain ⟨gg,o,cap,ka,kc,va,vc,e0,hg,k0,k1,k2,bk,bv⟩:=(h.step hst).wr hx
   rw [← hnn] at e0
   simp only [Value.slice.injEq] at e0
   obtain ⟨rfl, -,rfl⟩:=e0
   have hil:(r:Int) < (n:Int):=by omega
   have hr0:(0:Int)≤(r:Int):=by omega
   have hok:=hl x (List.mem_of_getElem? hx)
   have hup:okUp (doneC P (l.take r)):=ok_doneC _ hp fun y hy=>hl y (List.mem_of_mem_take hy)
   have hlen:=doneC_len (P:=P) (l.take r)
   rw [List.length_take_of_le (by omega)] at hlen
   have hbm:=bytesP_max hup.1
   have hs:=doneC_snoc P l hx
   have hbs:=bytes_doneW hup.2 x
   have hgw:=gainW_le hup.1 hok
   obtain ⟨kn,hkn⟩:∃ kn,kn=x.key.length:=⟨_,rfl⟩
   obtain ⟨vn,hvn⟩:∃ vn,vn=x.val.length:=⟨_,rfl⟩
   obtain ⟨gn,hgn⟩:∃ gn,gn=x.gone:=⟨_,rfl⟩
   rw [← hkn] at k0 bk
   rw [← hvn] at k1 bv
   rw [← hgn] at k2
   obtain ⟨Pr0,hPr⟩:∃ Pr0,Pr0=doneC P (l.take r):=⟨_,rfl⟩
   rw [← hPr] at hcr hmr hup hbm hs hbs hgw hlen
   obtain ⟨wb,hwb⟩:∃ wb,wb=wr.alloc (.cells #[.slice ka kn kc, .slice va vn vc, .bool gn] 61):=⟨_,rfl⟩
   have hbx:Below wr.heap.size wr wb:=by rw [hwb]; exact (Below.refl _ _).alloc (Nat.le_refl _) _
   have CB:Cel wb wr.heap.size [.slice ka kn kc, .slice va vn vc, .bool gn] 61:=by rw [hwb]; exact Cel.new wr _ _
   have HB:=Lib.hid (anZ (anZ hcr (anZ hmr hor)) (anZ hbx (anZ CB (anZ bk (anZ bv (anZ hup (anZ hok (anZ hs (anZ hbs (anZ hgw (anZ hbm (anZ hlen (anZ hkn (anZ hvn hgn))))))))))))))
   have HW:=Lib.hid hwb
   clear hcr hmr hor hbx CB bk bv hup hok hs hbs hgw hbm hlen hkn hvn hgn hx hst hPr hwb hnn h hl hp
   go_upto_region 3 with fail
   rw [← HW.out]
   clear HW k0 k1 k2
   have hc1:=(HB.out.1.1.below HB.out.2.1)
   have HX:=Lib.hid (fun (W:World) (hW:W.heap[sb]? = wb.heap[sb]? ∧ W.heap[wr.heap.size]? = wb.heap[wr.heap.size]?)=>anZ ((hc1.kept hW.1).cells) (anZ (show W.cell? ⟨wr.heap.size,0,none⟩=some (.slice ka kn kc) by rw [(HB.out.2.2.1.kept hW.2).cell]; rfl) (anZ (show W.cell? ⟨wr.heap.size,1,none⟩=some (.slice va vn vc) by rw [(HB.out.2.2.1.kept hW.2).cell]; rfl) (show W.cell? ⟨wr.heap.size,2,none⟩=some (.bool gn) by rw [(HB.out.2.2.1.kept hW.2).cell]; rfl))))
   clear hc1
   refine region_till 10 (fun W=>W.heap[sb]? = wb.heap[sb]? ∧ W.heap[wr.heap.size]? = wb.heap[wr.heap.size]?) (by kernel_rfl) ⟨rfl,rfl⟩ (fun hS=>?_)
   refine tkZ (i:=0) 12 (ptr sb) rfl rfl (by kernel_rfl) (fun _ _ _ h=>h) (by rfl) (fun W hW=>?_) hS ?_
   ·obtain ⟨⟨c0,c1,c2,c3,c4,c5,c6,c7⟩,d0,d1,d2⟩:=HX.out W hW
    clear hW
    go_simp
   simp only [Act.put,sAZ,sBZ,sCZ]
   refine tkZ (i:=1) 13 (ptr sb) rfl rfl (by kernel_rfl) (fun _ _ _ h=>h) (by rfl) (fun W hW=>?_) hS ?_
   ·obtain ⟨⟨c0,c1,c2,c3,c4,c5,c6,c7⟩,d0,d1,d2⟩:=HX.out W hW
    clear hW
    go_simp
   simp only [Act.put,sAZ,sBZ,sCZ]
   refine tkZ (i:=2) 14 (.pointer (some ⟨sb,6,none⟩)) rfl rfl (by kernel_rfl) (fun _ _ _ h=>h) (by rfl) (fun W hW=>?_) hS ?_
   ·obtain ⟨⟨c0,c1,c2,c3,c4,c5,c6,c7⟩,d0,d1,d2⟩:=HX.out W hW
    clear hW
    go_simp
   simp only [Act.put,sAZ,sBZ,sCZ]
   refine tkZ (i:=3) 15 (.int .i64 (bytesP Pr0:Nat)) rfl rfl (by kernel_rfl) (fun _ _ _ h=>h) (by rfl) (fun W hW=>?_) hS ?_
   ·obtain ⟨⟨c0,c1,c2,c3,c4,c5,c6,c7⟩,d0,d1,d2⟩:=HX.out W hW
    clear hW
    go_simp
   simp only [Act.put,sAZ,sBZ,sCZ]
   refine tkZ (i:=4) 16 (ptr sb) rfl rfl (by kernel_rfl) (fun _ _ _ h=>h) (by rfl) (fun W hW=>?_) hS ?_
   ·obtain ⟨⟨c0,c1,c2,c3,c4,c5,c6,c7⟩,d0,d1,d2⟩:=HX.out W hW
    clear hW
    go_simp
   simp only [Act.put,sAZ,sBZ,sCZ]
   refine tkZ (i:=5) 17 (.agg #[.slice ka kn kc, .slice va vn vc, .bool gn]) rfl rfl (by kernel_rfl) (fun _ _ _ h=>h) (by rfl) (fun W hW=>?_) hS ?_
   ·obtain ⟨⟨c0,c1,c2,c3,c4,c5,c6,c7⟩,d0,d1,d2⟩:=HX.out W hW
    clear hW
    go_simp
   simp only [Act.put,sAZ,sBZ,sCZ]
   refine next_till 6 (by kernel_rfl) rfl (fun K hK=>?_)
   go_simp
   obtain ⟨⟨hcr,hmr,hor⟩,hbx,CB,bk,bv,hup,hok,hs,hbs,hgw,hbm,hlen,hkn,hvn,hgn⟩:=HB.out
   have hbd:Below wr.heap.size wr wb.drew:=below_drewN hbx 1
   have GA:=gain_any (w:=wb.drew) (P:=Pr0) (x:=x) (kv:=.slice ka kn kc) (vv:=.slice va vn vc) ((hcr.below hbd).cells.2.2.2.2.2.1) (hmr.below hbd) hup.1 hok (bk.1.below hbd) (bv.1.below hbd)
   rw [← hgn] at GA
   refine GA.mono ?_
   rintro e w2 ⟨rfl,hb2⟩
   have hb2':Below wb.heap.size wb w2:=(below_drewN (Below.refl wb.heap.size wb) 1).trans hb2
   have hsz:=hbx.size
   have hltx:=CB.lt
   have S2:w2.heap[sb]? = wb.heap[sb]? ∧ w2.heap[wr.heap.size]? = wb.heap[wr.heap.size]?:=⟨hb2'.block sb (by have:=hcr.lt; omega),hb2'.block _ hltx⟩
   clear GA
   refine hK.out _ _ (fun _=>S2) ?_
   have HK2:=Lib.hid (anZ hb2' S2)
   clear hK K hS hb2 hb2' hcr hmr hor hbx CB bk bv hup hok hs hbs hgw hbm hlen hkn hvn hgn hbd hsz hltx
   have hS:=S2
   clear S2
   refine tkZ (i:=7) 19 (.int .i64 ((bytesP Pr0:Nat)+gainW Pr0 x)) rfl rfl (by kernel_rfl) (fun _ _ _ h=>h) (by rfl) (fun W hW=>?_) hS ?_
   ·obtain ⟨-, -, -, -, -, -, -, -, -,hgw,hbm,hlen, -⟩:=HB.out
    clear hW
    go_simp
    exact IntWalk.i64_in _ (by omega)
   simp only [Act.put,sAZ,sBZ,sCZ]
   have S2:=hS
   refine next_till 8 (by kernel_rfl) rfl (fun K hK=>?_)
   go_simp
   refine hK.out _ _ (fun _=>S2) ?_
   clear hK K
   refine next_till 9 (by kernel_rfl) rfl (fun K hK=>?_)
   go_simp
   refine hK.out _ _ (fun _=>S2) ?_
   clear hK K
   have hcw:=(HB.out.1.1.below HB.out.2.1).kept hS.1
   have hbw:StC w2 sb dv pv tv jv g mb (bytesP Pr0:Nat) dead:=hcw
   have c6:=hbw.cells.2.2.2.2.2.2.1
   have f6:=hbw.frozen 6
   have HC2:=Lib.hid hbw
   clear hcw hbw
   refine next_till 10 (by kernel_rfl) rfl (fun K hK=>?_)
   go_simp
   refine hK.out _ _ (fun h=>absurd rfl h) ?_
   clear hK K c6 f6 hS S2
   refine done_till (by kernel_rfl) ?_ _
   obtain ⟨bn2,hbn2⟩:∃ bn2,bn2=(bytesP Pr0:Nat)+gainW Pr0 x:=⟨_,rfl⟩
   rw [← hbn2]
   have hbx:=HK2.out.1
   have hc3:StC (w2.setCell ⟨sb,6,none⟩ (.int .i64 bn2)) sb dv pv tv jv g mb bn2 dead:=HC2.out.setBytes bn2
   have hxsb:wr.heap.size≠sb:=by have:=HB.out.1.1.lt; omega
   have hcb3:Cel (w2.setCell ⟨sb,6,none⟩ (.int .i64 bn2)) wr.heap.size [.slice ka kn kc, .slice va vn vc, .bool gn] 61:=(HB.out.2.2.1.kept HK2.out.2.2).kept (Below.heap_setCell _ _ _ _ hxsb)
   have hm3:SMap (w2.setCell ⟨sb,6,none⟩ (.int .i64 bn2)) mb Pr0:=(((HB.out.1.2.1.below HB.out.2.1).below hbx).kept (Below.heap_setCell _ _ _ _ (Ne.symm hne)))
   have ho3:Only (fun q=>q=sb∨q=mb) w (w2.setCell ⟨sb,6,none⟩ (.int .i64 bn2)):=(HB.out.1.2.2.trans (Only.of_below (HB.out.2.1.trans (hbx.mono HB.out.2.1.size)) _)).setCell (p:=⟨sb,6,none⟩) (.inl (.inl rfl)) _
   have hb3:Below wr.heap.size wr wb:=HB.out.2.1
   have bk3:Bs (w2.setCell ⟨sb,6,none⟩ (.int .i64 bn2)) (.slice ka kn kc) x.key:=(((HB.out.2.2.2.1.1.below hb3).below hbx).only ((Only.refl (· = sb) w2).setCell (p:=⟨sb,6,none⟩) (.inl rfl) _) fun q hq e=>HB.out.2.2.2.1.2 (fun e0=>by have:=HB.out.2.2.2.2.2.2.1.1.1.1; rw [e0] at this; simp at this) q hq (e ▸ hsb))
   have bv3:Bs (w2.setCell ⟨sb,6,none⟩ (.int .i64 bn2)) (.slice va vn vc) x.val:=by
    by_cases e0:x.val=[]
    ·have h0:=(HB.out.2.2.2.2.1.1.below hb3).below hbx
     rw [e0] at h0 ⊢
     exact h0.empty
    ·exact ((HB.out.2.2.2.2.1.1.below hb3).below hbx).only ((Only.refl (· = sb) w2).setCell (p:=⟨sb,6,none⟩) (.inl rfl) _) fun q hq e=>HB.out.2.2.2.2.1.2 e0 q hq (e ▸ hsb)
   have hby:bn2=(bytesP (doneW Pr0 x):Nat):=by rw [hbn2]; exact HB.out.2.2.2.2.2.2.2.2.1.symm
   generalize w2.setCell ⟨sb,6,none⟩ (.int .i64 bn2)=w3 at *
   have hk32:x.key.length≤maxLen:=by have:=HB.out.2.2.2.2.2.2.1.1.1.2; unfold maxLen; omega
   have hv128:x.val.length≤maxLen:=by have:=HB.out.2.2.2.2.2.2.1.1.2; unfold maxLen; omega
   have hlen3:Pr0.length < maxLen:=by have:=HB.out.2.2.2.2.2.2.2.2.2.2.2.1; unfold maxLen; omega
   have k2:w3.cell? ⟨wr.heap.size,2,none⟩=some (.bool gn):=hcb3.cell 2
   have HF:=Lib.hid (anZ hc3 (anZ hcb3 (anZ hm3 (anZ ho3 (anZ hby (anZ hk32 (anZ hv128 hlen3)))))))
   obtain ⟨Sx,hSx⟩:∃ Sx:World→Prop,∀ W,Sx W↔(W.heap[sb]? = w3.heap[sb]? ∧ W.heap[wr.heap.size]? = w3.heap[wr.heap.size]?)∧Bs W (.slice ka kn kc) x.key∧Bs W (.slice va vn vc) x.val:=⟨_,fun _=>Iff.rfl⟩
   have hD:=(hSx w3.drew).2 ⟨⟨rfl,rfl⟩,bk3.drewN 1,bv3.drewN 1⟩
   have HX2:=Lib.hid (fun (W:World) (hW:Sx W)=>anZ (hc3.kept ((hSx W).1 hW).1.1).cells (anZ (show W.cell? ⟨wr.heap.size,0,none⟩=some (.slice ka kn kc) by rw [(hcb3.kept ((hSx W).1 hW).1.2).cell]; rfl) (show W.cell? ⟨wr.heap.size,1,none⟩=some (.slice va vn vc) by rw [(hcb3.kept ((hSx W).1 hW).1.2).cell]; rfl)))
   have HT:=Lib.hid (fun (W:World) (hW:Sx W)=>anZ (run_string_bs bt (d:=9) Tryz.underlying9 W ((hSx W).1 hW).2.1) (run_string_bs bt (d:=9) Tryz.underlying9 W ((hSx W).1 hW).2.2))
   have hkm:Only (· = mb) w3.drew w3.drew→∀ W4,Only (· = mb) w3.drew W4→Sx W4:=fun _ W4 ho4=>(hSx W4).2 ⟨⟨ho4.block sb hc3.lt hne,ho4.block wr.heap.size hcb3.lt (hm3.ne hcb3)⟩,(bk3.drewN 1).only ho4 (fun q hq e=>HB.out.2.2.2.1.2 (fun e0=>by have:=HB.out.2.2.2.2.2.2.1.1.1.1; rw [e0] at this; simp at this) q hq (e ▸ hmb)),by
    by_cases e0:x.val=[]
    ·have h0:=bv3
     rw [e0] at h0 ⊢
     exact h0.empty
    ·exact (bv3.drewN 1).only ho4 fun q hq e=>HB.out.2.2.2.2.1.2 e0 q hq (e ▸ hmb)⟩
   have HM:=Lib.hid (hkm (Only.refl _ _))
   clear hbx hc3 hcb3 hm3 ho3 hb3 bk3 bv3 hby hk32 hv128 hlen3 hbn2 hxsb HX HC2 HK2 hSx hkm
   have hgn:=Lib.hid HB.out.2.2.2.2.2.2.2.2.2.2.2.2.2.2
   cases gn
   ·go_upto_region 6 with fail
    refine region_till 99 Sx (by kernel_rfl) hD (fun hS=>?_)
    refine tkZ (i:=0) 31 (ptr sb) rfl rfl (by kernel_rfl) (fun _ _ _ h=>h) (by rfl) (fun W hW=>?_) hS ?_
    ·obtain ⟨⟨c0,c1,c2,c3,c4,c5,c6,c7⟩,d0,d1⟩:=HX2.out W hW; have ht:=Lib.hid (HT.out W hW)
     clear hW
     go_simp
    simp only [Act.put,sAZ,sBZ,sCZ]
    refine tkZ (i:=1) 32 (ptr sb) rfl rfl (by kernel_rfl) (fun _ _ _ h=>h) (by rfl) (fun W hW=>?_) hS ?_
    ·obtain ⟨⟨c0,c1,c2,c3,c4,c5,c6,c7⟩,d0,d1⟩:=HX2.out W hW; have ht:=Lib.hid (HT.out W hW)
     clear hW
     go_simp
    simp only [Act.put,sAZ,sBZ,sCZ]
    refine tkZ (i:=2) 33 (.pointer (some ⟨sb,5,none⟩)) rfl rfl (by kernel_rfl) (fun _ _ _ h=>h) (by rfl) (fun W hW=>?_) hS ?_
    ·obtain ⟨⟨c0,c1,c2,c3,c4,c5,c6,c7⟩,d0,d1⟩:=HX2.out W hW; have ht:=Lib.hid (HT.out W hW)
     clear hW
     go_simp
    simp only [Act.put,sAZ,sBZ,sCZ]
    refine tkZ (i:=3) 34 (.map (some mb)) rfl rfl (by kernel_rfl) (fun _ _ _ h=>h) (by rfl) (fun W hW=>?_) hS ?_
    ·obtain ⟨⟨c0,c1,c2,c3,c4,c5,c6,c7⟩,d0,d1⟩:=HX2.out W hW; have ht:=Lib.hid (HT.out W hW)
     clear hW
     go_simp
    simp only [Act.put,sAZ,sBZ,sCZ]
    refine tkZ (i:=4) 35 (.pointer (some ⟨wr.heap.size,0,none⟩)) rfl rfl (by kernel_rfl) (fun _ _ _ h=>h) (by rfl) (fun W hW=>?_) hS ?_
    ·obtain ⟨⟨c0,c1,c2,c3,c4,c5,c6,c7⟩,d0,d1⟩:=HX2.out W hW; have ht:=Lib.hid (HT.out W hW)
     clear hW
     go_simp
    simp only [Act.put,sAZ,sBZ,sCZ]
    refine tkZ (i:=5) 36 (.slice ka kn kc) rfl rfl (by kernel_rfl) (fun _ _ _ h=>h) (by rfl) (fun W hW=>?_) hS ?_
    ·obtain ⟨⟨c0,c1,c2,c3,c4,c5,c6,c7⟩,d0,d1⟩:=HX2.out W hW; have ht:=Lib.hid (HT.out W hW)
     clear hW
     go_simp
    simp only [Act.put,sAZ,sBZ,sCZ]
    refine tkZ (i:=6) 37 (strV x.key) rfl rfl (by kernel_rfl) (fun _ _ _ h=>h) (by rfl) (fun W hW=>?_) hS ?_
    ·obtain ⟨⟨c0,c1,c2,c3,c4,c5,c6,c7⟩,d0,d1⟩:=HX2.out W hW; have ht:=Lib.hid (HT.out W hW)
     clear hW
     go_simp
     rw [ht.out.1]; rfl
    simp only [Act.put,sAZ,sBZ,sCZ]
    refine tkZ (i:=7) 38 (.pointer (some ⟨wr.heap.size,1,none⟩)) rfl rfl (by kernel_rfl) (fun _ _ _ h=>h) (by rfl) (fun W hW=>?_) hS ?_
    ·obtain ⟨⟨c0,c1,c2,c3,c4,c5,c6,c7⟩,d0,d1⟩:=HX2.out W hW; have ht:=Lib.hid (HT.out W hW)
     clear hW
     go_simp
    simp only [Act.put,sAZ,sBZ,sCZ]
    refine tkZ (i:=8) 39 (.slice va vn vc) rfl rfl (by kernel_rfl) (fun _ _ _ h=>h) (by rfl) (fun W hW=>?_) hS ?_
    ·obtain ⟨⟨c0,c1,c2,c3,c4,c5,c6,c7⟩,d0,d1⟩:=HX2.out W hW; have ht:=Lib.hid (HT.out W hW)
     clear hW
     go_simp
    simp only [Act.put,sAZ,sBZ,sCZ]
    refine tkZ (i:=9) 40 (strV x.val) rfl rfl (by kernel_rfl) (fun _ _ _ h=>h) (by rfl) (fun W hW=>?_) hS ?_
    ·obtain ⟨⟨c0,c1,c2,c3,c4,c5,c6,c7⟩,d0,d1⟩:=HX2.out W hW; have ht:=Lib.hid (HT.out W hW)
     clear hW
     go_simp
     rw [ht.out.2]; rfl
    simp only [Act.put,sAZ,sBZ,sCZ]
    obtain ⟨w4,hr4,hm4,ho4⟩:=(HF.out.2.2.1.kept (w':=w3.drew) rfl).put (k:=x.key) (v:=x.val) HF.out.2.2.2.2.2.1 HF.out.2.2.2.2.2.2.1 HF.out.2.2.2.2.2.2.2
    refine next_till 10 (by kernel_rfl) rfl (fun K hK=>?_)
    rw [if_pos (by rfl)]
    refine wp_update_run (.tmp 34) (.tmp 37) (.tmp 40) 88 rfl rfl rfl rfl hr4 ?_
    refine hK.out _ _ (fun _=>HM.out w4 ho4) ?_
    clear hK K hr4 k2
    refine done_till (by kernel_rfl) ?_ _
    have hg:doneW Pr0 x=putP Pr0 x.key x.val:=by unfold doneW; rw [if_neg (by rw [← hgn.out]; decide)]
    have H4:=Lib.hid (anZ hm4 (anZ ho4 hg))
    clear hm4 ho4 hg hgn hS
    go_wp2
    go_roundw
    case rel =>
     refine ⟨r+1,by omega,by go_num,?_⟩
     rw [HB.out.2.2.2.2.2.2.2.1]
     have hcc:=HF.out.1
     rw [HF.out.2.2.2.2.1] at hcc
     refine ⟨(hcc.kept (w':=w3.drew) rfl).kept (H4.out.2.1.block sb hcc.lt hne),?_,(HF.out.2.2.2.1.drew).trans (H4.out.2.1.mono fun q _ e=>.inr e)⟩
     rw [H4.out.2.2]
     exact H4.out.1
    case measure=>simp [intOf]; omega
   ·go_upto_region 5 with fail
    refine region_till 99 Sx (by kernel_rfl) hD (fun hS=>?_)
    refine tkZ (i:=0) 24 (ptr sb) rfl rfl (by kernel_rfl) (fun _ _ _ h=>h) (by rfl) (fun W hW=>?_) hS ?_
    ·obtain ⟨⟨c0,c1,c2,c3,c4,c5,c6,c7⟩,d0,d1⟩:=HX2.out W hW; have ht:=Lib.hid (HT.out W hW)
     clear hW
     go_simp
    simp only [Act.put,sAZ,sBZ,sCZ]
    refine tkZ (i:=1) 25 (ptr sb) rfl rfl (by kernel_rfl) (fun _ _ _ h=>h) (by rfl) (fun W hW=>?_) hS ?_
    ·obtain ⟨⟨c0,c1,c2,c3,c4,c5,c6,c7⟩,d0,d1⟩:=HX2.out W hW; have ht:=Lib.hid (HT.out W hW)
     clear hW
     go_simp
    simp only [Act.put,sAZ,sBZ,sCZ]
    refine tkZ (i:=2) 26 (.pointer (some ⟨sb,5,none⟩)) rfl rfl (by kernel_rfl) (fun _ _ _ h=>h) (by rfl) (fun W hW=>?_) hS ?_
    ·obtain ⟨⟨c0,c1,c2,c3,c4,c5,c6,c7⟩,d0,d1⟩:=HX2.out W hW; have ht:=Lib.hid (HT.out W hW)
     clear hW
     go_simp
    simp only [Act.put,sAZ,sBZ,sCZ]
    refine tkZ (i:=3) 27 (.map (some mb)) rfl rfl (by kernel_rfl) (fun _ _ _ h=>h) (by rfl) (fun W hW=>?_) hS ?_
    ·obtain ⟨⟨c0,c1,c2,c3,c4,c5,c6,c7⟩,d0,d1⟩:=HX2.out W hW; have ht:=Lib.hid (HT.out W hW)
     clear hW
     go_simp
    simp only [Act.put,sAZ,sBZ,sCZ]
    refine tkZ (i:=4) 28 (.pointer (some ⟨wr.heap.size,0,none⟩)) rfl rfl (by kernel_rfl) (fun _ _ _ h=>h) (by rfl) (fun W hW=>?_) hS ?_
    ·obtain ⟨⟨c0,c1,c2,c3,c4,c5,c6,c7⟩,d0,d1⟩:=HX2.out W hW; have ht:=Lib.hid (HT.out W hW)
     clear hW
     go_simp
    simp only [Act.put,sAZ,sBZ,sCZ]
    refine tkZ (i:=5) 29 (.slice ka kn kc) rfl rfl (by kernel_rfl) (fun _ _ _ h=>h) (by rfl) (fun W hW=>?_) hS ?_
    ·obtain ⟨⟨c0,c1,c2,c3,c4,c5,c6,c7⟩,d0,d1⟩:=HX2.out W hW; have ht:=Lib.hid (HT.out W hW)
     clear hW
     go_simp
    simp only [Act.put,sAZ,sBZ,sCZ]
    refine tkZ (i:=6) 30 (strV x.key) rfl rfl (by kernel_rfl) (fun _ _ _ h=>h) (by rfl) (fun W hW=>?_) hS ?_
    ·obtain ⟨⟨c0,c1,c2,c3,c4,c5,c6,c7⟩,d0,d1⟩:=HX2.out W hW; have ht:=Lib.hid (HT.out W hW)
     clear hW
     go_simp
     rw [ht.out.1]; rfl
    simp only [Act.put,sAZ,sBZ,sCZ]
    refine next_till 7 (by kernel_rfl) rfl (fun K hK=>?_)
    rw [if_pos (by rfl)]
    obtain ⟨w4,hr4,hm4,ho4⟩:=(HF.out.2.2.1.kept (w':=w3.drew) rfl).cut (k:=x.key) HF.out.2.2.2.2.2.1 0
    refine wp_delete_run (.tmp 27) (.tmp 30) 88 9 rfl rfl rfl hr4 ?_
    refine hK.out _ _ (fun _=>HM.out w4 ho4) ?_
    clear hK K hr4 k2
    refine done_till (by kernel_rfl) ?_ _
    have hg:doneW Pr0 x=cutP Pr0 x.key:=by unfold doneW; rw [if_pos hgn.out.symm]
    have H4:=Lib.hid (anZ hm4 (anZ ho4 hg))
    clear hm4 ho4 hg hgn hS
    go_wp2
    go_roundw
    case rel =>
     refine ⟨r+1,by omega,by go_num,?_⟩
     rw [HB.out.2.2.2.2.2.2.2.1]
     have hcc:=HF.out.1
     rw [HF.out.2.2.2.2.1] at hcc
     refine ⟨(hcc.kept (w':=w3.drew) rfl).kept (H4.out.2.1.block sb hcc.lt hne),?_,(HF.out.2.2.2.1.drew).trans (H4.out.2.1.mono fun q _ e=>.inr e)⟩
     rw [H4.out.2.2]
     exact H4.out.1
    case measure=>simp [intOf]; omega
  ·obtain rfl:r=n:=by omega
   rw [List.take_of_length_le (by omega)] at hcr hmr
   have hil:¬ (r:Int) < (r:Int):=by omega
   have HB:=Lib.hid (anZ hcr (anZ hmr hor))
   clear h hnn hp hl hsb hmb hne hP hcr hmr hor
   go_wp2
   exact ⟨rfl, .tuple #[],by kernel_rfl,rfl,HB.out⟩
end
end Go.Proofs.YtgkofgifoiinkaaGreat
namespace Go.Proofs.YtgkofgifoiinkaaGreat
open Go.RowKit
def rootL (g:Nat) (l:Bytes):Bytes:=beL g 8++l
theorem rootL_length (g:Nat) (l:Bytes):(rootL g l).length=8+l.length:=by simp [rootL,beL_length]
def genB (g:Nat):Bool:=decide (1≤g) && decide (g≤4611686018427387904)
theorem genB_iff {g:Nat}:genB g=true↔1≤g∧g≤4611686018427387904:=by simp [genB]
def genOf (b:Bytes):Nat:=beNat ((openV b).2.1.take 8)
def isRoot (k:Nat) (b:Bytes):Prop:=(openV b).2.2=0∧(openV b).1=1∧8≤(openV b).2.1.length∧genB (genOf b)=true∧genOf b % 2=k∧(openV b).2.1.length≤488
instance (k:Nat) (b:Bytes):Decidable (isRoot k b):=by unfold isRoot; exact inferInstance
def rootOf (k:Nat) (b:Bytes):Nat × Bytes:=if isRoot k b then (genOf b,(openV b).2.1.drop 8) else (0,[])
theorem rootOf_yes {k:Nat} {b:Bytes} (h:isRoot k b):rootOf k b=(genOf b,(openV b).2.1.drop 8):=if_pos h
theorem rootOf_no {k:Nat} {b:Bytes} (h:¬ isRoot k b):rootOf k b=(0,[]):=if_neg h
theorem rootOf_back {g:Nat} {l:Bytes} (hg:genB g=true) (hl:l.length≤480):rootOf (g % 2) (sealL 1 (rootL g l))=(g,l):=by
 have ho:openV (sealL 1 (rootL g l))=(1,rootL g l,0):=open_seal (by decide) (by rw [rootL_length]; omega)
 have h8:(rootL g l).take 8=beL g 8:=by unfold rootL; exact List.take_left' (beL_length _ _)
 have hgo:genOf (sealL 1 (rootL g l))=g:=by
  unfold genOf
  rw [ho]
  simp only
  rw [h8,beNat_beL]
  have:=(genB_iff.1 hg).2
  omega
 have hr:isRoot (g % 2) (sealL 1 (rootL g l)):=by
  unfold isRoot
  rw [hgo,ho]
  simp only
  rw [rootL_length]
  exact ⟨trivial,trivial,by omega,hg,trivial,by omega⟩
 rw [rootOf_yes hr,hgo,ho]
 simp only
 have h8':(rootL g l).drop 8=l:=by unfold rootL; exact List.drop_left' (beL_length _ _)
 rw [h8']
theorem rootOf_kind {k:Nat} {b:Bytes} (h:b.getD 0 0=0):rootOf k b=(0,[]):=by
 refine rootOf_no fun hr=>?_
 have h1:=hr.2.1
 unfold openV at h1
 split at h1
 ·split at h1
  ·rw [h] at h1
   cases h1
  ·cases h1
 ·cases h1
theorem rootOf_noughts (k:Nat):rootOf k noughts=(0,[]):=rootOf_kind (by unfold noughts; rfl)
theorem rootOf_own (k:Nat) (b:Bytes):rootOf k b=(0,[])∨1≤(rootOf k b).1∧(rootOf k b).1≤4611686018427387904∧(rootOf k b).1 % 2=k∧(rootOf k b).2.length≤480:=by
 by_cases h:isRoot k b
 ·right
  rw [rootOf_yes h]
  obtain ⟨_,_,h3,h4,h5,h6⟩:=h
  have:=genB_iff.1 h4
  exact ⟨this.1,this.2,h5,by simp only [List.length_drop]; omega⟩
 ·exact .inl (rootOf_no h)
theorem rootOf_gen (k:Nat) (b:Bytes):(rootOf k b).1≤4611686018427387904:=by
 rcases rootOf_own k b with h | h
 ·rw [h]; decide
 ·exact h.2.1
end Go.Proofs.YtgkofgifoiinkaaGreat
namespace Go.Proofs.YtgkofgifoiinkaaGreat
open Go.RowKit
def stAt (D:Dv) (k:Nat):Bytes:=((D.bk[k]?).map Bk.stands).getD []
theorem stAt_of {D:Dv} {k:Nat} {x:Bk} (h:D.bk[k]? = some x):stAt D k=x.stands:=by simp [stAt,h]
def best (a b:Nat × Bytes):Nat × Bytes:=if a.1 < b.1 then b else a
def loadV (D:Dv):Nat × Bytes × Int :=
 if D.on=false then (0,[],8) else if D.bk.length < 2 then (0,[],1) else
  if (best (rootOf 0 (stAt D 0)) (rootOf 1 (stAt D 1))).1=0 then (0,[],4) else ((best (rootOf 0 (stAt D 0)) (rootOf 1 (stAt D 1))).1,(best (rootOf 0 (stAt D 0)) (rootOf 1 (stAt D 1))).2,0)
def sealG (g:Nat) (l:Bytes):Bytes:=sealL 1 (rootL g l)
theorem sealG_length {g:Nat} {l:Bytes} (h:l.length≤480):(sealG g l).length=512:=sealL_length (by rw [rootL_length]; omega)
def sMay (D:Dv) (g:Nat):Prop:=genB g=true∧2≤D.bk.length
instance (D:Dv) (g:Nat):Decidable (sMay D g):=by unfold sMay; exact inferInstance
def wroteD (D:Dv) (g:Nat) (l:Bytes):Dv:=wdev D ((g % 2:Nat):Int) (sealG g l)
def wroteC (D:Dv) (g:Nat) (l:Bytes):Int:=wcode D ((g % 2:Nat):Int) (sealG g l)
def sCode (D:Dv) (g:Nat) (l:Bytes):Int:=if sMay D g then (if 480 < l.length then 6 else if wroteC D g l=0 then fcode (wroteD D g l) else wroteC D g l) else 1
def sDev (D:Dv) (g:Nat) (l:Bytes):Dv:=if sMay D g then (if 480 < l.length then D else if wroteC D g l=0 then fdev (wroteD D g l) else wroteD D g l) else D
theorem wrote_ok {D:Dv} {g:Nat} {l:Bytes} (ho:D.on=true) (hz:D.left≠0) (h2:2≤D.bk.length) (hl:l.length≤480):wroteC D g l=0∧wroteD D g l=⟨wrote D.bk (g % 2) (sealG g l),true,spent D.left⟩:=by
 have hn:¬ noSuch D ((g % 2:Nat):Int) (sealG g l):=by
  unfold noSuch
  rw [sealG_length hl]
  omega
 unfold wroteC wroteD wcode wdev
 rw [if_neg (by simp [ho]),if_neg hn,if_neg hz,if_neg (by simp [ho]),if_neg hn,if_neg hz]
 exact ⟨rfl,by rw [ho,Int.toNat_natCast]⟩
theorem wrote_dies {D:Dv} {g:Nat} {l:Bytes} (ho:D.on=true) (hz:D.left=0) (h2:2≤D.bk.length) (hl:l.length≤480):wroteC D g l=8∧wroteD D g l=⟨D.bk,false,D.left⟩:=by
 have hn:¬ noSuch D ((g % 2:Nat):Int) (sealG g l):=by
  unfold noSuch
  rw [sealG_length hl]
  omega
 unfold wroteC wroteD wcode wdev
 rw [if_neg (by simp [ho]),if_neg hn,if_pos hz,if_neg (by simp [ho]),if_neg hn,if_pos hz]
 exact ⟨rfl,rfl⟩
theorem save_ok {D:Dv} {g:Nat} {l:Bytes} (hg:genB g=true) (ho:D.on=true) (hz:D.left≠0∧D.left≠1) (h2:2≤D.bk.length) (hl:l.length≤480) :
  sCode D g l=0∧sDev D g l=⟨flushed (wrote D.bk (g % 2) (sealG g l)),true,spent (spent D.left)⟩:=by
 obtain ⟨e1,e2⟩:=wrote_ok (g:=g) ho hz.1 h2 hl
 have hs:spent D.left≠0:=by unfold spent; split <;> omega
 unfold sCode sDev
 rw [if_pos ⟨hg,h2⟩,if_neg (by omega),if_pos e1,if_pos ⟨hg,h2⟩,if_neg (by omega),if_pos e1,e2]
 unfold fcode fdev
 simp [hs]
theorem save_first {D:Dv} {g:Nat} {l:Bytes} (hg:genB g=true) (ho:D.on=true) (hz:D.left=0) (h2:2≤D.bk.length) (hl:l.length≤480) :
  sCode D g l=8∧sDev D g l=⟨D.bk,false,D.left⟩:=by
 obtain ⟨e1,e2⟩:=wrote_dies (g:=g) ho hz h2 hl
 unfold sCode sDev
 rw [if_pos ⟨hg,h2⟩,if_neg (by omega),if_neg (by rw [e1]; decide),if_pos ⟨hg,h2⟩,if_neg (by omega),if_neg (by rw [e1]; decide)]
 exact ⟨e1,e2⟩
theorem save_second {D:Dv} {g:Nat} {l:Bytes} (hg:genB g=true) (ho:D.on=true) (hz:D.left=1) (h2:2≤D.bk.length) (hl:l.length≤480) :
  sCode D g l=8∧sDev D g l=⟨wrote D.bk (g % 2) (sealG g l),false,0⟩:=by
 obtain ⟨e1,e2⟩:=wrote_ok (g:=g) ho (by omega) h2 hl
 have hs:spent D.left=0:=by rw [hz]; rfl
 unfold sCode sDev
 rw [if_pos ⟨hg,h2⟩,if_neg (by omega),if_pos e1,if_pos ⟨hg,h2⟩,if_neg (by omega),if_pos e1,e2,hs]
 unfold fcode fdev
 simp
theorem save_not {D:Dv} {g:Nat} {l:Bytes} (h:¬ sMay D g):sCode D g l=1∧sDev D g l=D:=⟨if_neg h,if_neg h⟩
theorem save_many {D:Dv} {g:Nat} {l:Bytes} (h:sMay D g) (hl:480 < l.length):sCode D g l=6∧sDev D g l=D:=by
 unfold sCode sDev
 rw [if_pos h,if_pos hl,if_pos h,if_pos hl]
 exact ⟨rfl,rfl⟩
def Last2 (a b:Bytes) (g:Nat) (l:Bytes):Prop:=genB g=true∧l.length≤480∧((g % 2=0∧a=sealG g l∧(rootOf 1 b).1 < g)∨(g % 2=1∧b=sealG g l∧(rootOf 0 a).1 < g))
theorem Last2.best {a b:Bytes} {g:Nat} {l:Bytes} (h:Last2 a b g l):best (rootOf 0 a) (rootOf 1 b)=(g,l):=by
 obtain ⟨hg,hl,⟨hp,rfl,hb⟩ | ⟨hp,rfl,hb⟩⟩:=h
 ·have e:=rootOf_back hg hl
  rw [hp] at e
  unfold Go.Proofs.YtgkofgifoiinkaaGreat.best sealG
  rw [e,if_neg (by simp only; omega)]
 ·have e:=rootOf_back hg hl
  rw [hp] at e
  unfold Go.Proofs.YtgkofgifoiinkaaGreat.best sealG
  rw [e,if_pos hb]
theorem Last2.load {a b:Bytes} {g:Nat} {l:Bytes} (h:Last2 a b g l) {D:Dv} (ho:D.on=true) (h2:2≤D.bk.length) (ha:stAt D 0=a) (hb:stAt D 1=b):loadV D=(g,l,0):=by
 unfold loadV
 rw [if_neg (by simp [ho]),if_neg (by omega),ha,hb,h.best,if_neg (by have:=(genB_iff.1 h.1).1; simp only; omega)]
theorem Last2.next {a b:Bytes} {g:Nat} {l x:Bytes} (h:Last2 a b g l) (hg:genB (g+1)=true) (hx:x.length≤480):Last2 (if (g+1) % 2=0 then sealG (g+1) x else a) (if (g+1) % 2=0 then b else sealG (g+1) x) (g+1) x:=by
 obtain ⟨hg0,hl,⟨hp,rfl,hb⟩ | ⟨hp,rfl,hb⟩⟩:=h
 ·have e:=rootOf_back hg0 hl
  rw [hp] at e
  have h1:(g+1) % 2=1:=by omega
  refine ⟨hg,hx, .inr ⟨h1,?_,?_⟩⟩
  ·rw [if_neg (by omega)]
  ·rw [if_neg (by omega)]
   unfold sealG
   rw [e]
   simp only
   omega
 ·have e:=rootOf_back hg0 hl
  rw [hp] at e
  have h1:(g+1) % 2=0:=by omega
  refine ⟨hg,hx, .inl ⟨h1,?_,?_⟩⟩
  ·rw [if_pos h1]
  ·rw [if_pos h1]
   unfold sealG
   rw [e]
   simp only
   omega
end Go.Proofs.YtgkofgifoiinkaaGreat
