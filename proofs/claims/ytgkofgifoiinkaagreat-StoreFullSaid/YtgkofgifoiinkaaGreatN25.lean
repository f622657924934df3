/- find of a journal: the strings that stand on its ring, whole, from a spot on; conditions: the device is on and lies in memory, apart from the journal's head · Open of a journal: a journal and what it holds, or why not; condition: the device is on and lies in memory. -/
import Derived.Test.YtgkofgifoiinkaaGreatN08
import Derived.Test.YtgkofgifoiinkaaGreatN22
namespace Go.Proofs.YtgkofgifoiinkaaGreat
open Go.RowKit Go.Maps
def RowG (w:World) (G:Nat→Prop) (v:Value) (ls:List Bytes):Prop :=
 ∃ vals,w.ownsRow 0 24 1 v ls.length vals∧(∀ (i:Nat) (l:Bytes),ls[i]? = some l→∃ u,vals[i]? = some u∧Bs w u l∧∀ q,u.ownBlock=some q→G q∧q < w.heap.size∧v.ownBlock≠some q)∧∀ q,v.ownBlock=some q→G q
section
variable {w w':World} {G G' S:Nat→Prop} {v:Value} {ls:List Bytes}
theorem RowG.nil (w:World) (G:Nat→Prop):RowG w G nilSl []:=⟨[],World.ownsRow_nil _ _ _ _,(fun i l h=>by simp at h),fun g h=>by cases h⟩
theorem RowG.only (h:RowG w G v ls) (ho:Only S w w') (hd:∀ q,G q→¬ S q):RowG w' G v ls:=by
 obtain ⟨vals,hr,he,hv⟩:=h
 refine ⟨vals,⟨hr.1,?_⟩,fun i l hl=>?_,hv⟩
 ·rcases hr.2 with h' | ⟨g,cap,cur,e1,e2,e3,r⟩
  ·exact .inl h'
  ·exact .inr ⟨g,cap,cur,e1,e2,(ho.block g ((Array.getElem?_eq_some_iff.1 e3).1) (hd g (hv g (by rw [e1]; rfl)))).trans e3,r⟩
 ·obtain ⟨u,hu,hb,hq⟩:=he i l hl
  exact ⟨u,hu,hb.only ho fun q hq'=>hd q (hq q hq').1,fun q hq'=>⟨(hq q hq').1,Nat.lt_of_lt_of_le (hq q hq').2.1 ho.size,(hq q hq').2.2⟩⟩
theorem RowG.below (h:RowG w G v ls) (hb:Below w.heap.size w w'):RowG w' G v ls:=h.only (Only.of_below hb fun _=>False) fun _ _ h=>h
theorem RowG.widen (h:RowG w G v ls) (hg:∀ q,G q→G' q):RowG w G' v ls:=by
 obtain ⟨vals,hr,he,hv⟩:=h
 exact ⟨vals,hr,fun i l hl=>let ⟨u,hu,hb,hq⟩:=he i l hl; ⟨u,hu,hb,fun q hq'=>⟨hg q (hq q hq').1,(hq q hq').2⟩⟩,fun q hq=>hg q (hv q hq)⟩
theorem RowG.shape (h:RowG w G v ls):∃ a cap,v = .slice a ls.length cap:=by
 obtain ⟨vals,ho,_,_⟩:=h
 rcases ho.2 with ⟨rfl,h0⟩ | ⟨g,cap,cur,rfl,_⟩
 ·exact ⟨none,0,by rw [h0]⟩
 ·exact ⟨_,cap,rfl⟩
theorem RowG.cells (h:RowG w G v ls) (hn:0 < ls.length):∃ g cap,v = .slice (some ⟨g,0,none⟩) ls.length cap∧∀ (i:Nat) (l:Bytes),ls[i]? = some l→∃ a c,w.cell? ⟨g,i,none⟩=some (.slice a l.length c)∧Bs w (.slice a l.length c) l:=by
 obtain ⟨vals,ho,he,hv⟩:=h
 rcases ho.2 with ⟨rfl,h0⟩ | ⟨g,cap,cur,rfl,hbg,hh,r⟩
 ·omega
 ·refine ⟨g,cap,rfl,fun i l hi=>?_⟩
  obtain ⟨u,hu,hb,_⟩:=he i l hi
  have hlt:=(List.getElem?_eq_some_iff.1 hi).1
  obtain ⟨a,c,rfl,hb'⟩:=hb.shape
  refine ⟨a,c,?_,hb'⟩
  rw [ho.cellAt i (by omega)]
  exact hu
theorem RowG.push (h:RowG w G v ls) {u:Value} {l:Bytes} (hu:Bs w u l) (hG:∀ q,u.ownBlock=some q→G q∧q < w.heap.size∧v.ownBlock≠some q) (hn:ls.length < 4294967296) :
  ∃ v' w',(Builtin.append_ #[69,69] 69 #[v, .slice (some ⟨w.heap.size,0,none⟩) 1 1]).run Tryz.prog (w.alloc (.cells #[u] 24)) = .ok v' w' ∧
   RowG w' (Grow G w w') v' (ls++[l])∧Only (fun q=>v.ownBlock=some q) w w':=by
 obtain ⟨i0,hi,hz0,hz1,hz2⟩:=info_parts row_info
 obtain ⟨ua,uc,rfl,hu'⟩:=hu.shape
 have hnew:=cell_one_new w (.slice ua l.length uc) 24
 have h3:=h.below ((Below.refl w.heap.size w).alloc (Nat.le_refl _) (.cells #[.slice ua l.length uc] 24))
 obtain ⟨vals,hr,he,hv⟩:=h3
 obtain ⟨v',w4,hrun,ho4,hg4,_,hloc⟩:=run_append_own_at (P:=Tryz.prog) (w:=w.alloc (.cells #[.slice ua l.length uc] 24)) 0 69 69 24 i0 nilSl 1 24 Tryz.underlying69 hi hz0 hz1 hz2 rfl (by decide) v ls.length vals hr
  ⟨w.heap.size,0,none⟩ 1 1 [.slice ua l.length uc] rfl hnew (by simp [Value.oneCell']) (by unfold maxLen; omega) (by omega) (Nat.zero_le _)
 have z0:(w.alloc (.cells #[.slice ua l.length uc] 24)).heap.size=w.heap.size+1:=by simp
 have z4:=hg4.size
 have o1:Only (fun q=>v.ownBlock=some q) w (w.alloc (.cells #[.slice ua l.length uc] 24)):=(Only.refl _ w).alloc _
 have o4:Only (fun q=>v.ownBlock=some q) w w4:=o1.grown hg4 (fun q e=>.inl e)
 have og:Only (fun q=>v.ownBlock=some q) (w.alloc (.cells #[.slice ua l.length uc] 24)) w4:=(Only.refl _ _).grown hg4 (fun q e=>.inl e)
 have v'ne:∀ q,v.ownBlock≠some q→q < w.heap.size→v'.ownBlock≠some q:=fun q h1 h2 e=>by
  rcases hloc with hl | hl
  ·exact h1 (hl ▸ e)
  ·rw [hl] at e
   cases e
   omega
 refine ⟨v',w4,hrun,⟨vals++[.slice ua l.length uc],?_,fun i m hm=>?_,fun q e=>?_⟩,o4⟩
 ·rw [List.length_append]
  exact ho4
 ·by_cases hlt:i < ls.length
  ·rw [List.getElem?_append_left hlt] at hm
   obtain ⟨x,hx,hb,hq⟩:=he i m hm
   refine ⟨x,?_,hb.only og fun q e=>(hq q e).2.2,fun q e=>?_⟩
   ·rw [List.getElem?_append_left (by have:=(List.getElem?_eq_some_iff.1 hx).1; exact this)]
    exact hx
   ·obtain ⟨h1,h2,h3⟩:=hq q e
    by_cases hqs:q < w.heap.size
    ·exact ⟨.inl h1,by omega,v'ne q h3 hqs⟩
    ·refine ⟨.inl h1,by omega,fun e'=>?_⟩
     rcases hloc with hl | hl
     ·exact h3 (hl ▸ e')
     ·rw [hl] at e'
      cases e'
      omega
  ·have hlen:=hr.1
   rw [List.getElem?_append_right (by omega)] at hm
   have hi0:i=ls.length:=by
    have:=(List.getElem?_eq_some_iff.1 hm).1
    simp at this
    omega
   subst hi0
   rw [Nat.sub_self,List.getElem?_cons_zero,Option.some.injEq] at hm
   subst hm
   refine ⟨.slice ua l.length uc,?_,hu.only o4 fun q e=>(hG q e).2.2,fun q e=>⟨.inl (hG q e).1,by have:=(hG q e).2.1; omega,v'ne q (hG q e).2.2 (hG q e).2.1⟩⟩
   rw [List.getElem?_append_right (by omega),show ls.length-vals.length=0 by omega]
   rfl
 ·rcases hloc with hl | hl
  ·exact .inl (hv q (hl ▸ e))
  ·have:=(World.ownsRow.lt ho4 q e).2
   rw [hl] at e
   cases e
   exact .inr ⟨by omega,by omega⟩
end
theorem ow_only {w w':World} {S:Nat→Prop} {base:Nat} {e:TypeId} {v:Value} {l:Bytes} (h:Ow w base e v l) (ho:Only S w w') (hd:∀ q,v.ownBlock=some q→¬ S q):Ow w' base e v l:=by
 refine ⟨h.1,?_⟩
 rcases h.2 with h' | ⟨g,cap,cur,e1,e2,e3,r⟩
 ·exact .inl h'
 ·exact .inr ⟨g,cap,cur,e1,e2,(ho.block g ((Array.getElem?_eq_some_iff.1 e3).1) (hd g (by rw [e1]; rfl))).trans e3,r⟩
section
variable {P:Program} {ops:Array Oper} {rest:List Oper} {o:Oper} {a:Act} {w w':World} {Q:Exit→Act→World→Prop}
theorem wpList_append_run (hgd:o.guard=none) {v x v':Value} (sl xl:Operand) (ty:TypeId) (ho:o.op = .call { callee:=.builtin .append,args := #[sl,xl],argTypes := #[ty,ty] }) (hs:a.eval sl=v) (hx:a.eval xl=x)
  (hr:(Builtin.append_ #[ty,ty] o.type #[v,x]).run P w = .ok v' w') (h:wpList P ops Q rest (a.put o.dst v') w'):wpList P ops Q (o::rest) a w:=by
 refine wpList_plain hgd fun _ hK=>?_
 unfold Oper.wp execOp
 simp only [ho,resolve,invoke,builtin,Sem.run_bind,Sem.run_pure,Result.andThen_ok,List.map_toArray,List.map_cons,List.map_nil,hs,hx,hr]
 exact hK _ _ h
theorem run_append_bs_at {t e:TypeId} (T:ByteTy P t e) (w:World) (base:Nat) (ty:TypeId) {v x:Value} {l m:List UInt8} (hv:Ow w base e v l) (hx:Bs w x m)
  (hn:l.length+m.length≤140737488355328) (hbase:base≤w.heap.size) :
  ∃ v' w',(Builtin.append_ #[t,t] ty #[v,x]).run P w = .ok v' w'∧Ow w' base e v' (l++m)∧w.grownBy w' v.ownBlock∧(v'.ownBlock=v.ownBlock∨v'.ownBlock=some w.heap.size):=by
 obtain ⟨i,hi,hz,hs,hb⟩:=T.parts
 obtain ⟨a,cap,rfl,h2,h3,h4,h5⟩:=hx
 rcases a with _ | ad
 ·have hc:=h4 rfl
  subst hc
  have hm:m=[]:=List.eq_nil_of_length_eq_zero (by omega)
  subst hm
  exact ⟨v,w,run_append_owned_none (P:=P) w base t ty e i 1 T.slice hi v l.length (bvs l) hv,by simpa using hv,⟨rfl,rfl,rfl,Nat.le_refl _,fun _ _ _=>rfl⟩, .inl rfl⟩
 ·obtain ⟨v',w',hr,ho,hg,_,hl⟩:=run_append_own_at (P:=P) (w:=w) base t ty e i (.int .u8 0) 1 1 T.slice hi hz hs hb rfl (by decide) v l.length (bvs l) hv ad m.length cap (bvs m) (by simp [bvs_length])
   (h5 ad rfl) bvs_one (by unfold maxLen; omega) (by omega) hbase
  exact ⟨v',w',hr,by simpa [Ow,bvs_append,List.length_append] using ho,hg,hl⟩
end
end Go.Proofs.YtgkofgifoiinkaaGreat
namespace Go.Proofs.YtgkofgifoiinkaaGreat
open Go.RowKit
def foundJ (J:Jn) (acc:List (Bytes × Spot)):Jn:={ J with held:=J.held+acc.length,ahead:=((acc.map Prod.snd).getLast?.getD J.spot).1,sum:=((acc.map Prod.snd).getLast?.getD J.spot).2 }
theorem foundJ_more (J:Jn) (acc:List (Bytes × Spot)) (l:Bytes) (t:Spot):(foundJ J acc).more t=foundJ J (acc++[(l,t)]):=by
 unfold foundJ Jn.more
 simp
 omega
structure FR (w:World) (jb b:Nat) (J:Jn) (bk:List Bk) (acc:List (Bytes × Spot)) (t:Spot) (cur:Bytes) (G:Nat→Prop) (g:Nat) (lv sv:Value) (W:World):Prop where
 sc:scan J.at_ J.seq (standsFrom J.fr J.size J.at_ bk J.ahead) J.spot []=acc++scan J.at_ J.seq (standsFrom J.fr J.size J.at_ bk t.1) t cur
 tl:t.1≤J.size
 ts:t.2 < 18446744073709551616
 al:acc.length≤t.1
 cl:cur.length≤512*t.1
 box:Cel W g (spotL t) 123
 gl:w.heap.size≤g
 gG:¬ G g
 row:RowG W G lv (acc.map Prod.fst)
 own:Ow W w.heap.size 5 sv cur
 sG:∀ q,sv.ownBlock=some q→¬ G q
 sg:sv.ownBlock≠some g
 Gl:∀ q,G q→w.heap.size≤q∧q < W.heap.size
 head:JAt W jb b (foundJ J acc)
 fit:(foundJ J acc).Fit
 only:Only (· = jb) w W
section
variable {w W W':World} {jb b:Nat} {J:Jn} {bk:List Bk} {acc:List (Bytes × Spot)} {t:Spot} {cur:Bytes} {G:Nat→Prop} {g:Nat} {lv sv:Value}
theorem FR.below (h:FR w jb b J bk acc t cur G g lv sv W) (hb:Below W.heap.size W W'):FR w jb b J bk acc t cur G g lv sv W' where
 sc:=h.sc
 tl:=h.tl
 ts:=h.ts
 al:=h.al
 cl:=h.cl
 box:=h.box.below hb h.box.lt
 gl:=h.gl
 gG:=h.gG
 row:=h.row.below hb
 own:=h.own.below hb
 sG:=h.sG
 sg:=h.sg
 Gl q hq:=⟨(h.Gl q hq).1,Nat.lt_of_lt_of_le (h.Gl q hq).2 hb.size⟩
 head:=h.head.below hb
 fit:=h.fit
 only:=h.only.trans (Only.of_below hb _)
theorem FR.three (h:FR w jb b J bk acc t cur G g lv sv W):W.cell? ⟨jb,0,none⟩=some (ptr b)∧W.cell? ⟨jb,1,none⟩=some (.int .i64 (J.fr:Int))∧W.cell? ⟨jb,2,none⟩=some (.int .i64 (J.size:Int)) :=
 ⟨h.head.cells.1,h.head.cells.2.1,h.head.cells.2.2.1⟩
theorem JAt.three (h:JAt W jb b (foundJ J acc)):W.cell? ⟨jb,0,none⟩=some (ptr b)∧W.cell? ⟨jb,1,none⟩=some (.int .i64 (J.fr:Int))∧W.cell? ⟨jb,2,none⟩=some (.int .i64 (J.size:Int)) :=
 ⟨h.cells.1,h.cells.2.1,h.cells.2.2.1⟩
def aheadOf (W:World):Value→Nat
 | .pointer (some a)=>match W.cell? a with
  | some (.int _ n)=>n.toNat
  | _=>0
 | _=>0
theorem FR.ahead (h:FR w jb b J bk acc t cur G g lv sv W):aheadOf W (.pointer (some ⟨g,0,none⟩))=t.1:=by
 have:W.cell? ⟨g,0,none⟩=some (.int .i64 (t.1:Int)):=by rw [h.box.cell]; rfl
 simp [aheadOf,this]
end
def Finds (w:World) (jb b:Nat) (J:Jn) (m:List (Bytes × Spot)) (e:Ending) (w':World):Prop :=
 ∃ lv G,e = .returned (.tuple #[lv,err 0])∧RowG w' G lv (m.map Prod.fst)∧(∀ q,G q→w.heap.size≤q∧q < w'.heap.size)∧JAt w' jb b (foundJ J m)∧Only (· = jb) w w'
theorem tell_short {a s u:Nat} {l:Bytes} (hl:l.length=512):(tellL a s u l).2.length≤512:=by
 unfold tellL
 split
 ·simp only [List.length_drop]
  have:(openV l).2.1.length≤512:=by
   unfold openV
   split
   ·split
    ·simp only [List.length_take,List.length_drop]; omega
    ·simp
   ·simp
  omega
 ·simp
theorem sumOf_lt (l:Bytes):sumOf l < 4294967296:=by
 unfold sumOf
 have:=beNat_lt ((l.drop 508).take 4)
 have h2:((l.drop 508).take 4).length≤4:=List.length_take_le _ _
 have h3:256 ^ ((l.drop 508).take 4).length≤256 ^ 4:=Nat.pow_le_pow_right (by decide) h2
 have h4:(256:Nat) ^ 4=4294967296:=by decide
 omega
section
variable {w w':World} {jb b:Nat} {J:Jn} {D:Dv} {F:Nat→Prop}
set_option maxHeartbeats 4000000 in
theorem find_any (h:JAt w jb b J) (hJ:J.Fit) (hD:Dev w b D F) (hjb:¬ F jb) (ho:D.on=true) (hf:J.fr+J.size≤D.bk.length) (hm:J.seq+J.held+4096 < 18446744073709551616) :
  Calls Tryz.prog 102 #[ptr jb] w (Finds w jb b J (scan J.at_ J.seq (standsFrom J.fr J.size J.at_ D.bk J.ahead) J.spot [])):=by
 obtain ⟨c6,c7⟩:_∧_:=⟨h.cells.2.2.2.2.2.2.1,h.cells.2.2.2.2.2.2.2.1⟩
 have HC:=Lib.hid (anZ h (anZ hJ (anZ hD (anZ hjb (anZ ho (anZ hf hm))))))
 clear h hJ hD hjb ho hf hm
 unfold Finds
 go_enter Tryz.func102,Tryz.ntmps102
 go_wp2
 go_loopw [2,4,5] (fun lv sv pv wr=>∃ acc t cur G g,pv = .pointer (some ⟨g,0,none⟩)∧FR w jb b J D.bk acc t cur G g lv sv wr) (fun _ _ pv wr=>J.size-aheadOf wr pv)
 case atStart =>
  obtain ⟨h,hJ,hD,hjb,ho,hf,hm⟩:=HC.out
  have bw:=(Below.refl w.heap.size w).alloc (Nat.le_refl _) (.cells #[.int .i64 (J.ahead:Int), .int .u64 (J.sum:Int)] 123)
  refine ⟨[],J.spot,[],fun _=>False,w.heap.size,rfl,?_⟩
  exact {
   sc:=by simp
   tl:=hJ.ahl
   ts:=hJ.sml
   al:=Nat.zero_le _
   cl:=Nat.zero_le _
   box:=Cel.new w _ _
   gl:=Nat.le_refl _
   gG:=id
   row:=RowG.nil _ _
   own:=World.ownsRow_nil _ _ _ _
   sG:=fun q hq=>by cases hq
   sg:=fun hq=>by cases hq
   Gl:=fun q hq=>hq.elim
   head:=h.below bw
   fit:=hJ
   only:=Only.of_below bw _ }
 case round =>
  obtain ⟨acc,t,cur,G,g,rfl,hR⟩:=hrel
  have HR:=Lib.hid hR
  have HR0:=Lib.hid hR
  have hj:=hR.head.cells
  obtain ⟨j0,j1,j2,j3,j4,j5,j6,j7,j8⟩:=hj
  have x0:wr.cell? ⟨g,0,none⟩=some (.int .i64 (t.1:Int)):=by rw [hR.box.cell]; rfl
  have x1:wr.cell? ⟨g,1,none⟩=some (.int .u64 (t.2:Int)):=by rw [hR.box.cell]; rfl
  replace j2:wr.cell? ⟨jb,2,none⟩=some (.int .i64 (J.size:Int)):=j2
  clear hR j0 j1 j3 j4 j5 j6 j7 j8
  by_cases hlt:t.1 < J.size
  ·have hlt':(t.1:Int) < (J.size:Int):=by omega
   go_wp2
   go_quiet (fail)
   go_wp2
   have hb1:=below_drewN (Below.refl wr.heap.size wr) nq
   have hR1:=HR.out.below hb1
   have HR1:=Lib.hid hR1
   clear hb1 hR1 j2 x0 x1 HR
   generalize wr.drewN nq=w1 at *
   have HX:=Lib.hid (fun (W:World) (hW:W.heap[jb]? = w1.heap[jb]? ∧ W.heap[g]? = w1.heap[g]?)=>anZ (HR1.out.head.kept hW.1).three (anZ (show W.cell? ⟨g,0,none⟩=some (.int .i64 (t.1:Int)) by rw [(HR1.out.box.kept hW.2).cell]; rfl) (show W.cell? ⟨g,1,none⟩=some (.int .u64 (t.2:Int)) by rw [(HR1.out.box.kept hW.2).cell]; rfl)))
   refine region_till 99 (fun W=>W.heap[jb]? = w1.heap[jb]? ∧ W.heap[g]? = w1.heap[g]?) (by kernel_rfl) ⟨rfl,rfl⟩ (fun hS=>?_)
   refine tkZ (i:=0) 22 (ptr jb) rfl rfl (by kernel_rfl) (fun _ _ _ h=>h) (by rfl) (fun W hW=>?_) hS ?_
   ·obtain ⟨⟨c0,c1,c2⟩,d0,d1⟩:=HX.out W hW
    clear hW
    go_simp
   simp only [Act.put,sAZ,sBZ,sCZ]
   refine tkZ (i:=1) 23 (ptr jb) rfl rfl (by kernel_rfl) (fun _ _ _ h=>h) (by rfl) (fun W hW=>?_) hS ?_
   ·obtain ⟨⟨c0,c1,c2⟩,d0,d1⟩:=HX.out W hW
    clear hW
    go_simp
   simp only [Act.put,sAZ,sBZ,sCZ]
   refine tkZ (i:=2) 24 (.pointer (some ⟨jb,0,none⟩)) rfl rfl (by kernel_rfl) (fun _ _ _ h=>h) (by rfl) (fun W hW=>?_) hS ?_
   ·obtain ⟨⟨c0,c1,c2⟩,d0,d1⟩:=HX.out W hW
    clear hW
    go_simp
   simp only [Act.put,sAZ,sBZ,sCZ]
   refine tkZ (i:=3) 25 (ptr b) rfl rfl (by kernel_rfl) (fun _ _ _ h=>h) (by rfl) (fun W hW=>?_) hS ?_
   ·obtain ⟨⟨c0,c1,c2⟩,d0,d1⟩:=HX.out W hW
    clear hW
    go_simp
   simp only [Act.put,sAZ,sBZ,sCZ]
   refine tkZ (i:=4) 26 (ptr jb) rfl rfl (by kernel_rfl) (fun _ _ _ h=>h) (by rfl) (fun W hW=>?_) hS ?_
   ·obtain ⟨⟨c0,c1,c2⟩,d0,d1⟩:=HX.out W hW
    clear hW
    go_simp
   simp only [Act.put,sAZ,sBZ,sCZ]
   refine tkZ (i:=5) 27 (ptr jb) rfl rfl (by kernel_rfl) (fun _ _ _ h=>h) (by rfl) (fun W hW=>?_) hS ?_
   ·obtain ⟨⟨c0,c1,c2⟩,d0,d1⟩:=HX.out W hW
    clear hW
    go_simp
   simp only [Act.put,sAZ,sBZ,sCZ]
   refine tkZ (i:=6) 28 (.pointer (some ⟨jb,1,none⟩)) rfl rfl (by kernel_rfl) (fun _ _ _ h=>h) (by rfl) (fun W hW=>?_) hS ?_
   ·obtain ⟨⟨c0,c1,c2⟩,d0,d1⟩:=HX.out W hW
    clear hW
    go_simp
   simp only [Act.put,sAZ,sBZ,sCZ]
   refine tkZ (i:=7) 29 (.int .i64 (J.fr:Int)) rfl rfl (by kernel_rfl) (fun _ _ _ h=>h) (by rfl) (fun W hW=>?_) hS ?_
   ·obtain ⟨⟨c0,c1,c2⟩,d0,d1⟩:=HX.out W hW
    clear hW
    go_simp
   simp only [Act.put,sAZ,sBZ,sCZ]
   refine tkZ (i:=8) 30 (ptr jb) rfl rfl (by kernel_rfl) (fun _ _ _ h=>h) (by rfl) (fun W hW=>?_) hS ?_
   ·obtain ⟨⟨c0,c1,c2⟩,d0,d1⟩:=HX.out W hW
    clear hW
    go_simp
   simp only [Act.put,sAZ,sBZ,sCZ]
   refine tkZ (i:=9) 31 (spotV t) rfl rfl (by kernel_rfl) (fun _ _ _ h=>h) (by rfl) (fun W hW=>?_) hS ?_
   ·obtain ⟨⟨c0,c1,c2⟩,d0,d1⟩:=HX.out W hW
    clear hW
    go_simp
   simp only [Act.put,sAZ,sBZ,sCZ]
   refine next_till 10 (by kernel_rfl) rfl (fun K hK=>?_)
   go_simp
   refine (place_any (w:=w1.drew) HR1.out.head HR1.out.fit.atl HR1.out.fit.few t (Nat.le_of_lt hlt)).mono ?_
   rintro e w2 ⟨he,b2⟩
   change e = .returned (.int .i64 (ringAt J.at_ J.size t.1:Nat)) at he
   subst he
   have b2':Below w1.heap.size w1 w2:=(below_drewN (Below.refl w1.heap.size w1) 1).trans b2
   have hR2:=HR1.out.below b2'
   have HR2:=Lib.hid hR2
   have S2:w2.heap[jb]? = w1.heap[jb]? ∧ w2.heap[g]? = w1.heap[g]?:=⟨b2'.block jb HR1.out.head.lt,b2'.block g HR1.out.box.lt⟩
   refine hK.out _ _ (fun _=>S2) ?_
   clear hK K hS b2 b2' hR2
   have hS:=S2
   have hrl:(ringAt J.at_ J.size t.1:Nat) < (4096:Int):=by have:=ringAt_lt HC.out.2.1.atl hlt; have:=HC.out.2.1.few; omega
   have hfl:(J.fr:Int)≤4096:=by have:=HC.out.2.1.frl; omega
   refine tkZ (i:=11) 33 (.int .i64 ((J.fr:Int)+(ringAt J.at_ J.size t.1:Nat))) rfl rfl (by kernel_rfl) (fun _ _ _ h=>h) (by rfl) (fun W hW=>?_) hS ?_
   ·clear hW
    go_simp
    exact IntWalk.i64_in _ (by omega)
   simp only [Act.put,sAZ,sBZ,sCZ]
   refine next_till 12 (by kernel_rfl) rfl (fun K hK=>?_)
   go_simp
   have hpl:(J.fr:Int)+(ringAt J.at_ J.size t.1:Nat)=((J.fr+ringAt J.at_ J.size t.1:Nat):Int):=by omega
   rw [hpl]
   have hin:J.fr+ringAt J.at_ J.size t.1 < D.bk.length:=by have:=ringAt_lt HC.out.2.1.atl hlt; have:=HC.out.2.2.2.2.2.1; omega
   obtain ⟨x,hx⟩:∃ x,D.bk[J.fr+ringAt J.at_ J.size t.1]? = some x:=⟨_,List.getElem?_eq_getElem hin⟩
   have hD2:Dev w2 b D F:=HC.out.2.2.1.other HR2.out.only fun q hq e=>HC.out.2.2.2.1 (e ▸ hq)
   have hx5:=stands_len hD2 hx
   have hxs:standAt D.bk (J.fr+ringAt J.at_ J.size t.1)=x.stands:=by unfold standAt; rw [hx]; rfl
   refine (read_ok hD2 HC.out.2.2.2.2.1 hx).mono ?_
   rintro e w3 ⟨gb,rfl,cb,hgb,b3⟩
   have hR3:=HR2.out.below b3
   have S3:w3.heap[jb]? = w1.heap[jb]? ∧ w3.heap[g]? = w1.heap[g]?:=⟨(b3.block jb HR2.out.head.lt).trans S2.1,(b3.block g HR2.out.box.lt).trans S2.2⟩
   have vb:Bs w3 (.slice (some ⟨gb,0,none⟩) 512 512) x.stands:=Blk.bs ⟨gb,rfl,cb,hx5⟩
   have HR3:=Lib.hid (anZ hR3 (anZ vb (anZ hx5 hxs)))
   refine hK.out _ _ (fun _=>S3) ?_
   clear hK K hS hR3 vb hx5 hxs cb hgb b3 hpl hin hx hD2 S2 HR2 HX hrl hfl
   have hS:=S3
   refine next_till 13 (by kernel_rfl) rfl (fun K hK=>?_)
   go_simp
   refine hK.out _ _ (fun _=>S3) ?_
   clear hK K
   refine tkZ (i:=14) 35 (.slice (some ⟨gb,0,none⟩) 512 512) rfl rfl (by kernel_rfl) (fun _ _ _ h=>h) (by rfl) (fun W hW=>?_) hS ?_
   ·skip
    clear hW
    go_simp
   simp only [Act.put,sAZ,sBZ,sCZ]
   refine tkZ (i:=15) 36 (err 0) rfl rfl (by kernel_rfl) (fun _ _ _ h=>h) (by rfl) (fun W hW=>?_) hS ?_
   ·skip
    clear hW
    go_simp
   simp only [Act.put,sAZ,sBZ,sCZ]
   refine tkZ (i:=16) 6 (.slice (some ⟨gb,0,none⟩) 512 512) rfl rfl (by kernel_rfl) (fun _ _ _ h=>h) (by rfl) (fun W hW=>?_) hS ?_
   ·skip
    clear hW
    go_simp
   simp only [Act.put,sAZ,sBZ,sCZ]
   refine next_till 17 (by kernel_rfl) rfl (fun K hK=>?_)
   go_simp
   refine hK.out _ _ (fun _=>S3) ?_
   clear hK K hS S3
   refine done_till (by kernel_rfl) ?_ _
   have x0:w3.cell? ⟨g,0,none⟩=some (.int .i64 (t.1:Int)):=by rw [HR3.out.1.box.cell]; rfl
   have x1:w3.cell? ⟨g,1,none⟩=some (.int .u64 (t.2:Int)):=by rw [HR3.out.1.box.cell]; rfl
   go_wp2_with fail
   have ht:Calls Tryz.prog 128 #[ptr jb,spotV t, .slice (some ⟨gb,0,none⟩) 512 512] w3 (Tells w3 (tellL J.at_ J.seq t.2 x.stands)):=tell_any HR3.out.1.head HR3.out.1.fit t HR3.out.2.1
   obtain ⟨⟨k,p⟩,hkp⟩:∃ r,tellL J.at_ J.seq t.2 x.stands=r:=⟨_,rfl⟩
   rw [hkp] at ht
   refine ht.mono ?_
   rintro e w4 ⟨pv,rfl,hpb,hpo,b4⟩
   obtain ⟨pa,pc,rfl,_⟩:=hpb.shape
   have hR4:=HR3.out.1.below b4
   have vb4:=HR3.out.2.1.below b4
   have y0:w4.cell? ⟨g,0,none⟩=some (.int .i64 (t.1:Int)):=by rw [hR4.box.cell]; rfl
   have y1:w4.cell? ⟨g,1,none⟩=some (.int .u64 (t.2:Int)):=by rw [hR4.box.cell]; rfl
   have HR4:=Lib.hid (anZ hR4 (anZ vb4 (anZ hpb (anZ hpo hkp))))
   clear ht hpb hpo b4 hR4 vb4 x0 x1 hkp
   go_wp2_with fail
   refine (behind_any t _ HR4.out.2.1 HR3.out.2.2.1 (by have:=HR4.out.1.tl; have:=HC.out.2.1.few; omega)).mono ?_
   rintro e w5 ⟨rfl,b5⟩
   have hR5:=HR4.out.1.below b5
   have pv5:=HR4.out.2.2.1.below b5
   have z0:w5.cell? ⟨g,0,none⟩=some (.int .i64 (t.1:Int)):=by rw [hR5.box.cell]; rfl
   have z1:w5.cell? ⟨g,1,none⟩=some (.int .u64 (t.2:Int)):=by rw [hR5.box.cell]; rfl
   have g0:=hR5.box.frozen 0
   have g1:=hR5.box.frozen 1
   obtain ⟨t',ht'⟩:∃ t',behindS t x.stands=t':=⟨_,rfl⟩
   rw [ht']
   have o6:=((Only.refl (fun q=>q=g) w5).setCell (p:=⟨g,0,none⟩) (.inl rfl) (.int .i64 (t'.1:Int))).setCell (p:=⟨g,1,none⟩) (.inl rfl) (.int .u64 (t'.2:Int))
   have box6:Cel ((w5.setCell ⟨g,0,none⟩ (.int .i64 (t'.1:Int))).setCell ⟨g,1,none⟩ (.int .u64 (t'.2:Int))) g (spotL t') 123:=(hR5.box.set 0 _).set 1 _
   have own6:Ow ((w5.setCell ⟨g,0,none⟩ (.int .i64 (t'.1:Int))).setCell ⟨g,1,none⟩ (.int .u64 (t'.2:Int))) w.heap.size 5 _ cur:=ow_only hR5.own o6 fun q hq e=>hR5.sg (e ▸ hq)
   have row6:=hR5.row.only o6 fun q hq e=>hR5.gG (e ▸ hq)
   have head6:=hR5.head.only o6 (fun e=>by have h1:=hR5.gl; have h2:=HC.out.1.lt; omega)
   have only6:Only (· = jb) w _:=hR5.only.then o6 fun q hq=>.inr (by have h1:=hR5.gl; omega)
   have z6:=o6.size
   have piece6:Bs ((w5.setCell ⟨g,0,none⟩ (.int .i64 (t'.1:Int))).setCell ⟨g,1,none⟩ (.int .u64 (t'.2:Int))) (.slice pa p.length pc) p:=pv5.only o6 fun q hq e=>by
    have h1:=HR4.out.2.2.2.1 q hq
    have h2:=HR3.out.1.box.lt
    omega
   have hse:=HR4.out.1.sc
   rw [standsFrom_step (p:=t.1) hlt,HR3.out.2.2.2,scan,HR4.out.2.2.2.2] at hse
   have ht1:t'.1=t.1+1:=by rw [← ht']; rfl
   have ht2:t'.2 < 18446744073709551616:=by have:=sumOf_lt x.stands; rw [← ht']; simp only [behindS]; omega
   have htt:(t.1+1,sumOf x.stands)=t':=ht'
   simp only [htt] at hse
   have H6:=Lib.hid (anZ (anZ o6 (anZ box6 (anZ own6 (anZ row6 (anZ head6 (anZ only6 piece6)))))) (anZ hse (anZ ht1 (anZ ht2 (anZ hR5 z6)))))
   clear hR5 pv5 b5 y0 y1 ht' o6 box6 own6 row6 head6 only6 z6 piece6 hse ht1 ht2 htt
   by_cases hk1:k=1
   ·subst hk1
    rw [show (((1:UInt8).toNat:Nat):Int)=1 from rfl]
    have hlen6:cur.length+p.length≤140737488355328:=by
     have h1:=HR4.out.1.cl
     have h2:=HR4.out.1.tl
     have h3:=HC.out.2.1.few
     have h4:p.length≤512:=by
      have:=congrArg (fun r=>r.2.length) HR4.out.2.2.2.2
      simp only at this
      rw [← this]
      exact tell_short HR3.out.2.2.1
     omega
    obtain ⟨v7,w7,hrun,o7,gr7,loc7⟩:=run_append_bs_at bt _ w.heap.size 24 H6.out.1.2.2.1 H6.out.1.2.2.2.2.2.2 hlen6 H6.out.1.2.2.2.2.2.1.size
    have og7:=(Only.refl (fun q=>u4.ownBlock=some q) _).grown gr7 (fun q e=>.inl e)
    have box7:=H6.out.1.2.1.only og7 H6.out.2.2.2.2.1.sg
    have z7:=gr7.size
    have q0:w7.cell? ⟨g,0,none⟩=some (.int .i64 (t'.1:Int)):=by rw [box7.cell]; rfl
    have q1:w7.cell? ⟨g,1,none⟩=some (.int .u64 (t'.2:Int)):=by rw [box7.cell]; rfl
    have row7:=H6.out.1.2.2.2.1.only og7 fun q hq e=>H6.out.2.2.2.2.1.sG q e hq
    have head7:=H6.out.1.2.2.2.2.1.only og7 (fun e=>by
     have h1:=(H6.out.2.2.2.2.1.own.own e).1
     have h2:=HC.out.1.lt
     omega)
    have only7:=H6.out.1.2.2.2.2.2.1.then og7 fun q hq=>.inr (H6.out.2.2.2.2.1.own.own hq).1
    have sG7:∀ q,v7.ownBlock=some q→¬ G q:=fun q hq hg=>by
     rcases loc7 with e | e
     ·exact H6.out.2.2.2.2.1.sG q (e ▸ hq) hg
     ·rw [e] at hq
      have h1:=(H6.out.2.2.2.2.1.Gl q hg).2
      have h2:=H6.out.2.2.2.2.2
      cases hq
      omega
    have b8:=(Below.refl w7.heap.size w7).alloc (Nat.le_refl _) (.cells #[.int .i64 (t'.1:Int), .int .u64 (t'.2:Int)] 123)
    have hse:=H6.out.2.1
    rw [if_pos rfl] at hse
    have hz6:=H6.out.2.2.2.2.2
    have HF:FR w jb b J D.bk acc t' (cur++p) G w7.heap.size u2 v7 (w7.alloc (.cells #[.int .i64 (t'.1:Int), .int .u64 (t'.2:Int)] 123)):={
     sc:=by rw [H6.out.2.2.1]; exact hse
     tl:=by rw [H6.out.2.2.1]; omega
     ts:=H6.out.2.2.2.1
     al:=by have:=HR4.out.1.al; have:=H6.out.2.2.1; omega
     cl:=by
      have h1:=HR4.out.1.cl
      have h2:=H6.out.2.2.1
      have h4:p.length≤512:=by
       have:=congrArg (fun r=>r.2.length) HR4.out.2.2.2.2
       simp only at this
       rw [← this]
       exact tell_short HR3.out.2.2.1
      rw [List.length_append]
      omega
     box:=Cel.new w7 _ _
     gl:=by have:=only7.size; exact this
     gG:=fun hg=>by have:=(H6.out.2.2.2.2.1.Gl _ hg).2; omega
     row:=row7.below b8
     own:=o7.below b8
     sG:=sG7
     sg:=fun hq=>by have:=(o7.own hq).2; omega
     Gl:=fun q hq=>⟨(H6.out.2.2.2.2.1.Gl q hq).1,by have:=(H6.out.2.2.2.2.1.Gl q hq).2; have:=b8.size; omega⟩
     head:=head7.below b8
     fit:=H6.out.2.2.2.2.1.fit
     only:=only7.trans (Only.of_below b8 _) }
    have HFF:=Lib.hid HF
    have hme:aheadOf wr (.pointer (some ⟨g,0,none⟩))=t.1:=HR0.out.ahead
    have HME:=Lib.hid hme
    clear og7 box7 row7 head7 only7 sG7 b8 hse HF loc7 o7 gr7 hlen6 hme z7 hz6
    go_wp2_with (at_builtin; refine wpList_append_run rfl (.tmp 54) (.tmp 55) 24 rfl rfl rfl hrun ?_)
    go_roundw
    case rel=>exact ⟨acc,t',cur++p,G,w7.heap.size,rfl,HFF.out⟩
    case measure =>
     have h1:=HFF.out.ahead
     have h2:=H6.out.2.2.1
     rw [HME.out]
     rw [h1]
     omega
   ·by_cases hk2:k=2
    ·subst hk2
     clear hk1
     rw [show (((2:UInt8).toNat:Nat):Int)=2 from rfl]
     have hu6:Bs _ u4 cur:=H6.out.1.2.2.1.bs
     have hz6:=H6.out.2.2.2.2.2
     have hal:=HR4.out.1.al
     have htl:=HR4.out.1.tl
     have hfew:=HC.out.2.1.few
     obtain ⟨v7,w7,hrun,row7,o7⟩:=(H6.out.1.2.2.2.1.widen (G':=fun q=>G q∨u4.ownBlock=some q) (fun q hq=>.inl hq)).push hu6 (fun q hq=>⟨.inr hq,(H6.out.1.2.2.1.own hq).2,fun e=>by
      obtain ⟨vals,_,_,hvv⟩:=H6.out.2.2.2.2.1.row
      exact H6.out.2.2.2.2.1.sG q hq (hvv q e)⟩) (by rw [List.length_map]; omega)
     have lvG:∀ q,u2.ownBlock=some q→G q:=fun q e=>by
      obtain ⟨vals,_,_,hvv⟩:=H6.out.2.2.2.2.1.row
      exact hvv q e
     have z7:=o7.size
     have box7:=H6.out.1.2.1.only o7 (fun e=>H6.out.2.2.2.2.1.gG (lvG _ e))
     have head7:=H6.out.1.2.2.2.2.1.only o7 (fun e=>by
      have h1:=(H6.out.2.2.2.2.1.Gl _ (lvG _ e)).1
      have h2:=HC.out.1.lt
      omega)
     have only7:=H6.out.1.2.2.2.2.2.1.then o7 fun q hq=>.inr (H6.out.2.2.2.2.1.Gl q (lvG q hq)).1
     have q0:w7.cell? ⟨g,0,none⟩=some (.int .i64 (t'.1:Int)):=by rw [box7.cell]; rfl
     have q1:w7.cell? ⟨g,1,none⟩=some (.int .u64 (t'.2:Int)):=by rw [box7.cell]; rfl
     have hhold:=hold_any head7 (by have:=HC.out.2.2.2.2.2.2; simp only [foundJ]; omega) t'
     obtain ⟨ua,uc,hue,_⟩:=hu6.shape
     have H7:=Lib.hid (anZ row7 (anZ o7 (anZ z7 (anZ box7 (anZ head7 (anZ only7 hhold))))))
     have HGB:=Lib.hid (anZ lvG (anZ hz6 (anZ hal (anZ htl hfew))))
     have hrun':=hrun
     rw [hue] at hrun'
     have hs6:((w5.setCell ⟨g,0,none⟩ (.int .i64 (t'.1:Int))).setCell ⟨g,1,none⟩ (.int .u64 (t'.2:Int))).heap.size=w5.heap.size:=by simp
     rw [hs6] at hrun'
     clear hu6 row7 o7 z7 box7 head7 only7 hhold hrun lvG hz6 hal htl hfew hs6
     subst hue
     go_wp2_with (at_builtin; refine wpList_append_run rfl (.tmp 59) (.tmp 61) 69 rfl rfl rfl hrun' ?_)
     refine H7.out.2.2.2.2.2.2.mono ?_
     rintro e w8 ⟨rfl,hd8,o8⟩
     have nG:∀ q,Grow (fun q=>G q∨(Value.slice ua cur.length uc).ownBlock=some q) ((w5.setCell ⟨g,0,none⟩ (.int .i64 (t'.1:Int))).setCell ⟨g,1,none⟩ (.int .u64 (t'.2:Int))) w7 q→w.heap.size≤q∧q < w7.heap.size:=fun q hq=>by
      have h1:=HGB.out.2.1
      have h2:=H7.out.2.2.1
      rcases hq with (hq | hq) | hq
      ·have:=H6.out.2.2.2.2.1.Gl q hq; omega
      ·have:=H6.out.1.2.2.1.own hq; omega
      ·have h3:=H6.out.1.2.2.2.2.2.1.size
       exact ⟨by omega,hq.2⟩
     have hjlt:=HC.out.1.lt
     have row8:=H7.out.1.only o8 fun q hq e=>by have:=(nG q hq).1; omega
     have box8:=H7.out.2.2.2.1.only o8 (fun e=>by have:=H6.out.2.2.2.2.1.gl; omega)
     have only8:=H7.out.2.2.2.2.2.1.trans o8
     have z8:=o8.size
     have r0:w8.cell? ⟨g,0,none⟩=some (.int .i64 (t'.1:Int)):=by rw [box8.cell]; rfl
     have r1:w8.cell? ⟨g,1,none⟩=some (.int .u64 (t'.2:Int)):=by rw [box8.cell]; rfl
     have b9:=(Below.refl w8.heap.size w8).alloc (Nat.le_refl _) (.cells #[.int .i64 (t'.1:Int), .int .u64 (t'.2:Int)] 123)
     have hse:=H6.out.2.1
     rw [if_neg (by decide)] at hse
     simp only [if_true] at hse
     rw [foundJ_more J acc cur t'] at hd8
     have HF:FR w jb b J D.bk (acc++[(cur,t')]) t' [] (Grow (fun q=>G q∨(Value.slice ua cur.length uc).ownBlock=some q) ((w5.setCell ⟨g,0,none⟩ (.int .i64 (t'.1:Int))).setCell ⟨g,1,none⟩ (.int .u64 (t'.2:Int))) w7) w8.heap.size v7 (.slice none 0 0) (w8.alloc (.cells #[.int .i64 (t'.1:Int), .int .u64 (t'.2:Int)] 123)):={
      sc:=by rw [H6.out.2.2.1,List.append_assoc]; exact hse
      tl:=by rw [H6.out.2.2.1]; omega
      ts:=H6.out.2.2.2.1
      al:=by have:=HR4.out.1.al; have:=H6.out.2.2.1; rw [List.length_append]; simp only [List.length_cons,List.length_nil]; omega
      cl:=Nat.zero_le _
      box:=Cel.new w8 _ _
      gl:=only8.size
      gG:=fun hg=>by have:=(nG _ hg).2; omega
      row:=by
       rw [List.map_append]
       exact row8.below b9
      own:=World.ownsRow_nil _ _ _ _
      sG:=fun q hq=>by cases hq
      sg:=fun hq=>by cases hq
      Gl:=fun q hq=>⟨(nG q hq).1,by have:=(nG q hq).2; have:=b9.size; omega⟩
      head:=hd8.below b9
      fit:=by
       have h1:=H6.out.2.2.2.2.1.fit
       have h2:=H6.out.2.2.1
       have h3:=H6.out.2.2.2.1
       have h4:=HC.out.2.2.2.2.2.2
       have h5:=HGB.out.2.2
       refine ⟨h1.atl,h1.few,h1.frl,?_,?_,?_⟩
       ·simp only [foundJ,List.map_append,List.map_cons,List.map_nil,List.getLast?_append,List.getLast?_singleton,Option.some_or,Option.getD_some]
        omega
       ·simp only [foundJ,List.length_append,List.length_cons,List.length_nil]
        omega
       ·simp only [foundJ,List.map_append,List.map_cons,List.map_nil,List.getLast?_append,List.getLast?_singleton,Option.some_or,Option.getD_some]
        omega
      only:=only8.trans (Only.of_below b9 _) }
     have HFF:=Lib.hid HF
     have hme:aheadOf wr (.pointer (some ⟨g,0,none⟩))=t.1:=HR0.out.ahead
     have HME:=Lib.hid hme
     clear hd8 o8 nG hjlt row8 box8 only8 z8 b9 hse HF hme q0 q1 z0 z1
     go_wp2
     go_roundw
     case rel=>exact ⟨acc++[(cur,t')],t',[],_,w8.heap.size,rfl,HFF.out⟩
     case measure =>
      have h1:=HFF.out.ahead
      have h2:=H6.out.2.2.1
      rw [HME.out]
      rw [h1]
      omega
    ·have hn1:((k.toNat:Int) == 1)=false:=by
      rw [beq_eq_false_iff_ne]
      intro e
      exact hk1 (UInt8.toNat_inj.1 (by rw [show (1:UInt8).toNat=1 from rfl]; omega))
     have hn2:((k.toNat:Int) == 2)=false:=by
      rw [beq_eq_false_iff_ne]
      intro e
      exact hk2 (UInt8.toNat_inj.1 (by rw [show (2:UInt8).toNat=2 from rfl]; omega))
     have HK:=Lib.hid (anZ hk1 hk2)
     clear hk1 hk2
     go_wp2
     go_ret2
     have hse:=H6.out.2.1
     simp only [if_neg HK.out.1,if_neg HK.out.2,List.append_nil] at hse
     rw [hse]
     exact ⟨_,G,rfl,H6.out.1.2.2.2.1,fun q hq=>⟨(H6.out.2.2.2.2.1.Gl q hq).1,Nat.lt_of_lt_of_le (H6.out.2.2.2.2.1.Gl q hq).2 H6.out.2.2.2.2.2⟩,H6.out.1.2.2.2.2.1,H6.out.1.2.2.2.2.2.1⟩
  ·have hge:(J.size:Int)≤(t.1:Int):=by omega
   go_wp2
   go_quiet (fail)
   go_wp2
   go_ret2
   have hR:=HR.out
   have hse:=hR.sc
   rw [standsFrom_end (p:=t.1) (by omega),show scan J.at_ J.seq [] t cur=[] from rfl,List.append_nil] at hse
   have hb:=below_drewN (Below.refl wr.heap.size wr) nq
   have hR2:=hR.below hb
   rw [hse]
   exact ⟨_,G,rfl,hR2.row,hR2.Gl,hR2.head,hR2.only⟩
end
open Go.RowKit
def mayLie (m fr sz at_ sq:Int):Prop:=0≤fr∧2≤sz∧fr≤m-sz∧0≤at_∧at_ < sz∧1≤sq∧sq≤4611686018427387904
instance (m fr sz at_ sq:Int):Decidable (mayLie m fr sz at_ sq):=by unfold mayLie; exact inferInstance
def newJ (fr sz a s:Nat):Jn:=⟨fr,sz,a,s,0,0,0,false⟩
section
variable {w w':World} {b:Nat} {D:Dv} {F:Nat→Prop}
def OpensJ (w:World) (b:Nat) (J:Jn) (m:List (Bytes × Spot)) (e:Ending) (w':World):Prop :=
 ∃ lv G,e = .returned (.tuple #[ptr w.heap.size,lv,err 0])∧RowG w' G lv (m.map Prod.fst)∧(∀ q,G q→w.heap.size < q∧q < w'.heap.size)∧JAt w' w.heap.size b (foundJ J m)∧Below w.heap.size w w'
set_option maxHeartbeats 1000000 in
theorem open_ok (hD:Dev w b D F) (ho:D.on=true) {fr sz a s:Nat} (hm:mayLie D.bk.length fr sz a s) :
  Calls Tryz.prog 73 #[ptr b, .int .i64 (fr:Int), .int .i64 (sz:Int), .int .i64 (a:Int), .int .u64 (s:Int)] w
   (OpensJ w b (newJ fr sz a s) (scan a s (standsFrom fr sz a D.bk 0) (0,0) [])):=by
 have hfew:(D.bk.length:Int)≤4096:=by
  obtain ⟨_,_,_,_,_,h⟩:=hD
  have:=h.few
  omega
 have HS:=Lib.hid (size_any hD)
 have HD:=Lib.hid (anZ hD (anZ ho hm))
 obtain ⟨h0,h1,h2,h3,h4,h5,h6⟩:=hm
 clear hD ho
 unfold OpensJ
 have HL:=Lib.hid hfew
 obtain ⟨m,hmm⟩:∃ m,(D.bk.length:Int)=m:=⟨_,rfl⟩
 rw [hmm] at h2 hfew
 rw [hmm] at HS
 clear hmm
 go_enter Tryz.func73,Tryz.ntmps73
 go_wp2_with fail
 refine HS.out.mono ?_
 rintro e w1 ⟨rfl,rfl⟩
 go_wp2_with fail
 have bw:=(Below.refl w.heap.size w).alloc (Nat.le_refl _) (.cells #[ptr b, .int .i64 (fr:Int), .int .i64 (sz:Int), .int .i64 (a:Int), .int .u64 (s:Int), .int .u64 0, .int .i64 0, .int .u64 0, .bool false] 125)
 have hj:JAt (w.alloc (.cells #[ptr b, .int .i64 (fr:Int), .int .i64 (sz:Int), .int .i64 (a:Int), .int .u64 (s:Int), .int .u64 0, .int .i64 0, .int .u64 0, .bool false] 125)) w.heap.size b (newJ fr sz a s):=Cel.new w _ _
 have hsz1:(w.alloc (.cells #[ptr b, .int .i64 (fr:Int), .int .i64 (sz:Int), .int .i64 (a:Int), .int .u64 (s:Int), .int .u64 0, .int .i64 0, .int .u64 0, .bool false] 125)).heap.size=w.heap.size+1:=by simp
 have hml:=HD.out.2.2
 have hL:=HL.out
 obtain ⟨k0,k1,k2,k3,k4,k5,k6⟩:=hml
 have hfit:(newJ fr sz a s).Fit:=⟨by simp only [newJ]; omega,by simp only [newJ]; omega,by simp only [newJ]; omega,by simp only [newJ]; omega,by simp only [newJ]; omega,by simp only [newJ]; omega⟩
 have hfind:Calls Tryz.prog 102 #[.pointer (some ⟨w.heap.size,0,none⟩)] _ (Finds _ w.heap.size b (newJ fr sz a s) (scan a s (standsFrom fr sz a D.bk 0) (0,0) [])) :=
  find_any hj hfit (HD.out.1.below bw) (fun hf=>by have:=HD.out.1.fl _ hf; omega) HD.out.2.1 (by simp only [newJ]; omega) (by simp only [newJ]; omega)
 clear k0 k1 k2 k3 k4 k5 k6 hL hfit hj
 refine hfind.mono ?_
 rintro e w2 ⟨lv,G,rfl,hrow,hG,hj2,ho2⟩
 have hbw:Below w.heap.size w w2:=bw.trans (ho2.below (by omega) (fun q e=>by omega))
 rw [hsz1] at hG
 have H2:=Lib.hid (anZ hrow (anZ hG (anZ hj2 hbw)))
 clear hfind hrow hG hj2 ho2 hbw bw hsz1
 go_wp2
 go_ret3
 exact ⟨lv,G,rfl,H2.out.1,fun q hq=>⟨by have:=(H2.out.2.1 q hq).1; omega,(H2.out.2.1 q hq).2⟩,H2.out.2.2.1,H2.out.2.2.2⟩
end
end Go.Proofs.YtgkofgifoiinkaaGreat
