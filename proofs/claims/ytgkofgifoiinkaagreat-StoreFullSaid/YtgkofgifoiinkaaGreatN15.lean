/- Pages for nodes: what place does step by step, as lists, and what stays as the rows grow; no condition. -/
import Derived.Test.YtgkofgifoiinkaaGreatN14
import Derived.Test.YtgkofgifoiinkaaGreatN04
namespace Go.Proofs.YtgkofgifoiinkaaGreat
open Go.RowKit
def TopOk (B:Nat→Bytes) (N:Nat) (top:Nd) (P:List Nat):Prop :=
 top.page = -1∨∃ (pg:Nat) (pgs:List Nat) (prs:List Pr),top.page=(pg:Int)∧P=pg::pgs∧Nb B N top.lvl top.ents prs pgs∧NdOk N top.lvl top.ents∧RiseP prs∧Under prs top.to∧top.lvl≤4096
def Tookn (w:World) (tb db pb fr:Nat) (D:Dv) (l:List Pg) (wb:Nat) (top:Nd) (k:Wk) (S F G:Nat→Prop) (tev ttv tv bv xv:Value) (e:Ending) (w':World):Prop :=
 e = .returned (.tuple #[.int .i64 (tpage l),err (tcode l)])∧StAt w' tb db pb fr D (tdone l) wb top k S F G tev ttv tv bv xv∧Step S w w' S∧Only G w w'
section
variable {w:World} {tb db pb fr:Nat} {D:Dv} {l:List Pg} {wb:Nat} {top:Nd} {k:Wk} {S:Nat→Prop} {P:List Nat}
theorem thas_any {n:Nat} (h:St w tb db pb fr D l wb top k S) (ho:D.on=true) (ht:TopOk (blkOf D fr) l.length top P) (hn:n ∉ P) (hl:n < l.length) {tev ttv:Value} (he:Rd kdEn w S tev top.ents) (htt:Bsf w S ttv top.to) :
  Calls Tryz.prog 217 #[ptr tb,ndv top.page (top.lvl:Int) tev ttv, .int .i64 (n:Int)] w fun e w'=>e = .returned (.bool false)∧Below w.heap.size w w':=by
 rcases ht with h1 | ⟨pg,pgs,prs,h1,rfl,h3,h4,h5,h6,h7⟩
 ·rw [h1]
  exact has_none n w
 ·rw [h1]
  have hne:pg≠n:=fun e=>hn (e ▸ List.mem_cons_self)
  exact has_node w h.tr ho he htt h3 h4 h5 h6 hne (fun e=>hn (List.mem_cons_of_mem _ e)) hl h7
theorem wtake_none {F G:Nat→Prop} {tev ttv tv bv xv:Value} (h:StAt w tb db pb fr D l wb top k S F G tev ttv tv bv xv) (hn:leastFree l=none):Calls Tryz.prog 201 #[ptr wb] w (Tookn w tb db pb fr D l wb top k S F G tev ttv tv bv xv):=by
 unfold Tookn tpage tcode tdone
 rw [hn]
 have t0:w.cell? ⟨wb,0,none⟩=some (ptr tb):=h.cel.cell 0
 have t1:w.cell? ⟨tb,1,none⟩=some (ptr pb):=h.tr.tree.cell 1
 have T:=pgtake_any h.tr.pgs
 unfold tpage tcode tdone at T
 rw [hn] at T
 have HH:=Lib.hid h
 clear h hn
 go_enter Tryz.func201,Tryz.ntmps201
 go_wp2
 go_loopw [2] (fun _ wr=>wr=w) (fun _ _=>0)
 case atStart=>rfl
 case round =>
  obtain rfl:=hrel
  go_wp2_with fail
  refine T.mono ?_
  rintro e w1 ⟨rfl,hp,hon⟩
  clear T
  have H1:=Lib.hid (anZ (HH.out.pages hp hon rfl) hon)
  clear hp hon
  go_wp2
  go_ret2
  exact ⟨rfl,H1.out.1.1,H1.out.1.2,H1.out.2⟩
set_option maxRecDepth 100000 in
set_option maxHeartbeats 1000000 in
theorem wtake_some {n:Nat} {F G:Nat→Prop} {tev ttv tv bv xv:Value} (h:StAt w tb db pb fr D l wb top k S F G tev ttv tv bv xv) (ho:D.on=true) (ht:TopOk (blkOf D fr) l.length top P) (hn:leastFree l=some n) (hP:n ∉ P):Calls Tryz.prog 201 #[ptr wb] w (Tookn w tb db pb fr D l wb top k S F G tev ttv tv bv xv):=by
 unfold Tookn
 obtain ⟨hx,hx1,hx2,_⟩:=least_some hn
 have hnl:n < l.length:=(List.getElem?_eq_some_iff.1 hx1).1
 have e1:tpage l=(n:Int):=by unfold tpage; rw [hn]
 have e2:tcode l=0:=by unfold tcode; rw [hn]
 rw [e1,e2]
 have t0:w.cell? ⟨wb,0,none⟩=some (ptr tb):=h.cel.cell 0
 have t1:w.cell? ⟨tb,1,none⟩=some (ptr pb):=h.tr.tree.cell 1
 have T:=pgtake_any h.tr.pgs
 rw [e1,e2] at T
 have hlen:=tdone_length l
 have HH:=Lib.hid (anZ h (anZ ht (anZ hP (anZ hnl hlen))))
 clear h hn ht hP hx1 hx2 e1 e2 hnl hlen
 go_enter Tryz.func201,Tryz.ntmps201
 go_wp2
 go_loopw [2] (fun _ wr=>wr=w) (fun _ _=>0)
 case atStart=>rfl
 case round =>
  obtain rfl:=hrel
  go_wp2_with fail
  refine T.mono ?_
  rintro e w1 ⟨rfl,hp,hon⟩
  clear T
  obtain ⟨h,ht,hP,hnl,hlen⟩:=HH.out
  obtain ⟨h1,st1⟩:=h.pages hp hon hlen
  have s0:w1.drew.cell? ⟨wb,0,none⟩=some (ptr tb):=h1.cel.cell 0
  have s1:w1.drew.cell? ⟨wb,1,none⟩=some (.int .i64 top.page):=h1.cel.cell 1
  have s2:w1.drew.cell? ⟨wb,2,none⟩=some (.int .i64 (top.lvl:Nat)):=h1.cel.cell 2
  have s3:w1.drew.cell? ⟨wb,3,none⟩=some tev:=h1.cel.cell 3
  have s4:w1.drew.cell? ⟨wb,4,none⟩=some ttv:=h1.cel.cell 4
  have hd:=h1.below (below_drewN (Below.refl _ _) 1)
  have A:=thas_any (n:=n) ⟨_,_,_,_,_,_,_,hd⟩ ho (P:=P) (by rw [hlen]; exact ht) hP (by rw [hlen]; exact hnl) hd.te hd.tt
  obtain ⟨tea,tec,rfl,_⟩:=h1.te.shape
  obtain ⟨tta,ttc,rfl,_⟩:=h1.tt.1.shape
  have H1:=Lib.hid (anZ h1 (anZ st1 (anZ hd hon)))
  clear h ht hP hnl hlen h1 st1 hp hon hd t0 t1
  go_wp2_with fail
  have HX:=Lib.hid (fun (W:World) (hW:W.cell? ⟨wb,0,none⟩=some (ptr tb)∧W.cell? ⟨wb,1,none⟩=some (.int .i64 top.page)∧W.cell? ⟨wb,2,none⟩=some (.int .i64 (top.lvl:Nat))∧W.cell? ⟨wb,3,none⟩=some (.slice tea top.ents.length tec)∧W.cell? ⟨wb,4,none⟩=some (.slice tta top.to.length ttc))=>hW)
  refine region_till 99 (fun W=>W.cell? ⟨wb,0,none⟩=some (ptr tb)∧W.cell? ⟨wb,1,none⟩=some (.int .i64 top.page)∧W.cell? ⟨wb,2,none⟩=some (.int .i64 (top.lvl:Nat))∧W.cell? ⟨wb,3,none⟩=some (.slice tea top.ents.length tec)∧W.cell? ⟨wb,4,none⟩=some (.slice tta top.to.length ttc)) (by kernel_rfl) ⟨s0,s1,s2,s3,s4⟩ (fun hS=>?_)
  refine tkZ (i:=0) 20 (ptr wb) rfl rfl (by kernel_rfl) (fun _ _ _ h=>h) (by rfl) (fun W hW=>?_) hS ?_
  ·have hx:=HX.out W hW
   clear hW
   go_simp
  simp only [Act.put,sAZ,sBZ,sCZ]
  refine tkZ (i:=1) 21 (ptr wb) rfl rfl (by kernel_rfl) (fun _ _ _ h=>h) (by rfl) (fun W hW=>?_) hS ?_
  ·have hx:=HX.out W hW
   clear hW
   go_simp
  simp only [Act.put,sAZ,sBZ,sCZ]
  refine tkZ (i:=2) 22 (.pointer (some ⟨wb,0,none⟩)) rfl rfl (by kernel_rfl) (fun _ _ _ h=>h) (by rfl) (fun W hW=>?_) hS ?_
  ·have hx:=HX.out W hW
   clear hW
   go_simp
  simp only [Act.put,sAZ,sBZ,sCZ]
  refine tkZ (i:=3) 23 (ptr tb) rfl rfl (by kernel_rfl) (fun _ _ _ h=>h) (by rfl) (fun W hW=>?_) hS ?_
  ·have hx:=HX.out W hW
   clear hW
   go_simp
  simp only [Act.put,sAZ,sBZ,sCZ]
  refine tkZ (i:=4) 24 (ptr wb) rfl rfl (by kernel_rfl) (fun _ _ _ h=>h) (by rfl) (fun W hW=>?_) hS ?_
  ·have hx:=HX.out W hW
   clear hW
   go_simp
  simp only [Act.put,sAZ,sBZ,sCZ]
  refine tkZ (i:=5) 25 (ptr wb) rfl rfl (by kernel_rfl) (fun _ _ _ h=>h) (by rfl) (fun W hW=>?_) hS ?_
  ·have hx:=HX.out W hW
   clear hW
   go_simp
  simp only [Act.put,sAZ,sBZ,sCZ]
  refine tkZ (i:=6) 26 (.pointer (some ⟨wb,1,none⟩)) rfl rfl (by kernel_rfl) (fun _ _ _ h=>h) (by rfl) (fun W hW=>?_) hS ?_
  ·have hx:=HX.out W hW
   clear hW
   go_simp
  simp only [Act.put,sAZ,sBZ,sCZ]
  refine tkZ (i:=7) 27 (ndv top.page (top.lvl:Int) (.slice tea top.ents.length tec) (.slice tta top.to.length ttc)) rfl rfl (by kernel_rfl) (fun _ _ _ h=>h) (by rfl) (fun W hW=>?_) hS ?_
  ·have hx:=HX.out W hW
   clear hW
   go_simp
  simp only [Act.put,sAZ,sBZ,sCZ]
  refine tkZ (i:=8) 28 (.int .i64 (n:Int)) rfl rfl (by kernel_rfl) (fun _ _ _ h=>h) (by rfl) (fun W hW=>?_) hS ?_
  ·have hx:=HX.out W hW
   clear hW
   go_simp
  simp only [Act.put,sAZ,sBZ,sCZ]
  refine next_till 9 (by kernel_rfl) rfl (fun K hK=>?_)
  go_simp
  refine A.mono ?_
  rintro e w2 ⟨rfl,hb2⟩
  have h2:=H1.out.2.2.1.below hb2
  refine hK.out _ _ (fun _=>⟨h2.cel.cell 0,h2.cel.cell 1,h2.cel.cell 2,h2.cel.cell 3,h2.cel.cell 4⟩) ?_
  clear hK K hS A
  have hS:w2.cell? ⟨wb,0,none⟩=some (ptr tb)∧w2.cell? ⟨wb,1,none⟩=some (.int .i64 top.page)∧w2.cell? ⟨wb,2,none⟩=some (.int .i64 (top.lvl:Nat))∧w2.cell? ⟨wb,3,none⟩=some (.slice tea top.ents.length tec)∧w2.cell? ⟨wb,4,none⟩=some (.slice tta top.to.length ttc) :=
   ⟨h2.cel.cell 0,h2.cel.cell 1,h2.cel.cell 2,h2.cel.cell 3,h2.cel.cell 4⟩
  have H2:=Lib.hid (anZ h2 hb2)
  clear h2 hb2 s0 s1 s2 s3 s4
  refine next_till 10 (by kernel_rfl) rfl (fun K hK=>?_)
  go_simp
  refine hK.out _ _ (fun _=>hS) ?_
  clear hK K
  refine done_till (by kernel_rfl) ?_ _
  go_wp2
  go_ret2
  have hbel:Below w1.heap.size w1 w2:=⟨H2.out.2.os,H2.out.2.tape,H2.out.2.output,H2.out.2.size,H2.out.2.block⟩
  exact ⟨rfl,H2.out.1,H1.out.2.1.trans (Step.of_below hbel S),(Step.trans (S:=G) (S':=G) ⟨H1.out.2.2.2,fun _ h=>.inl h⟩ (Step.of_below hbel G)).only⟩
end
end Go.Proofs.YtgkofgifoiinkaaGreat
namespace Go.Proofs.YtgkofgifoiinkaaGreat
open Go.RowKit
structure StX (w:World) (tb db pb fr:Nat) (D:Dv) (l:List Pg) (wb:Nat) (top:Nd) (k:Wk) (S F G:Nat→Prop) (tev ttv ctv cbv tv bv xv:Value):Prop where
 tr:TrAt w tb db pb fr D l S F G
 cel:Cel w wb [ptr tb, .int .i64 top.page, .int .i64 (top.lvl:Nat),tev,ttv,ctv,cbv, .slice none 0 0,xv] 201
 te:Rd kdEn w S tev top.ents
 tt:Bsf w S ttv top.to
 rt:Ro kdIn 3 w S tv (ints k.T)
 rb:Ro kdBs 24 w S bv k.BL
 rx:Ro kdIn 3 w S xv (ints k.X)
 ws:S wb
 wf:¬ F wb∧¬ G wb
 tf:∀ q,tv.ownBlock=some q→¬ F q∧¬ G q∧q≠wb
 bf:∀ q,bv.ownBlock=some q→¬ F q∧¬ G q∧q≠wb
 xf:∀ q,xv.ownBlock=some q→¬ F q∧¬ G q∧q≠wb
 tx:∀ q,tv.ownBlock=some q→xv.ownBlock≠some q
 tbn:∀ q,tv.ownBlock=some q→bv.ownBlock≠some q
 bx:∀ q,bv.ownBlock=some q→xv.ownBlock≠some q
section
variable {w w':World} {tb db pb fr:Nat} {D:Dv} {l:List Pg} {wb:Nat} {top:Nd} {k:Wk} {S S' F G:Nat→Prop} {tev ttv ctv cbv tv bv xv v':Value}
theorem StAt.x (h:StAt w tb db pb fr D l wb top k S F G tev ttv tv bv xv):StX w tb db pb fr D l wb top k S F G tev ttv tv bv tv bv xv:=⟨h.tr,h.cel,h.te,h.tt,h.rt,h.rb,h.rx,h.ws,h.wf,h.tf,h.bf,h.xf,h.tx,h.tbn,h.bx⟩
theorem StX.at (h:StX w tb db pb fr D l wb top k S F G tev ttv tv bv tv bv xv):StAt w tb db pb fr D l wb top k S F G tev ttv tv bv xv:=⟨h.tr,h.cel,h.te,h.tt,h.rt,h.rb,h.rx,h.ws,h.wf,h.tf,h.bf,h.xf,h.tx,h.tbn,h.bx⟩
theorem StX.below (h:StX w tb db pb fr D l wb top k S F G tev ttv ctv cbv tv bv xv) (hb:Below w.heap.size w w'):StX w' tb db pb fr D l wb top k S F G tev ttv ctv cbv tv bv xv :=
 {tr:=h.tr.below hb,cel:=h.cel.below hb h.cel.lt,te:=h.te.step (Step.of_below hb S),tt:=h.tt.step (Step.of_below hb S),rt:=h.rt.below hb,rb:=h.rb.below hb,rx:=h.rx.below hb,
  ws:=h.ws,wf:=h.wf,tf:=h.tf,bf:=h.bf,xf:=h.xf,tx:=h.tx,tbn:=h.tbn,bx:=h.bx }
theorem StX.alloc (h:StX w tb db pb fr D l wb top k S F G tev ttv ctv cbv tv bv xv) (o:Obj):StX (w.alloc o) tb db pb fr D l wb top k S F G tev ttv ctv cbv tv bv xv:=h.below ((Below.refl _ _).alloc (Nat.le_refl _) o)
theorem StX.setT (h:StX w tb db pb fr D l wb top k S F G tev ttv ctv cbv tv bv xv) (v:Value):StX (w.setCell ⟨wb,5,none⟩ v) tb db pb fr D l wb top k S F G tev ttv v cbv tv bv xv∧Step S w (w.setCell ⟨wb,5,none⟩ v) S:=by
 have hst:Step S w (w.setCell ⟨wb,5,none⟩ v) S:=(Step.refl S w).set (p:=⟨wb,5,none⟩) h.ws v
 have hs:∀ g,g≠wb→(w.setCell ⟨wb,5,none⟩ v).heap[g]? = w.heap[g]?:=fun g hg=>Below.heap_setCell _ _ _ _ hg
 refine ⟨{ tr:=h.tr.turn hst (fun q hq=>hs q fun e=>hq.elim (fun h1=>h.wf.1 (e ▸ h1)) (fun h1=>h.wf.2 (e ▸ h1))) (fun _ h=>h) (fun q hq=>Nat.lt_of_lt_of_le (h.tr.lt q hq) hst.size)
           cel:=h.cel.set 5 v,te:=h.te.step hst,tt:=h.tt.step hst
           rt:=h.rt.keep (fun g hg=>hs g (h.tf g hg).2.2) hst (fun _ h=>h),rb:=h.rb.keep (fun g hg=>hs g (h.bf g hg).2.2) hst (fun _ h=>h),rx:=h.rx.keep (fun g hg=>hs g (h.xf g hg).2.2) hst (fun _ h=>h)
           ws:=h.ws,wf:=h.wf,tf:=h.tf,bf:=h.bf,xf:=h.xf,tx:=h.tx,tbn:=h.tbn,bx:=h.bx },hst⟩
theorem StX.setB (h:StX w tb db pb fr D l wb top k S F G tev ttv ctv cbv tv bv xv) (v:Value):StX (w.setCell ⟨wb,6,none⟩ v) tb db pb fr D l wb top k S F G tev ttv ctv v tv bv xv∧Step S w (w.setCell ⟨wb,6,none⟩ v) S:=by
 have hst:Step S w (w.setCell ⟨wb,6,none⟩ v) S:=(Step.refl S w).set (p:=⟨wb,6,none⟩) h.ws v
 have hs:∀ g,g≠wb→(w.setCell ⟨wb,6,none⟩ v).heap[g]? = w.heap[g]?:=fun g hg=>Below.heap_setCell _ _ _ _ hg
 refine ⟨{ tr:=h.tr.turn hst (fun q hq=>hs q fun e=>hq.elim (fun h1=>h.wf.1 (e ▸ h1)) (fun h1=>h.wf.2 (e ▸ h1))) (fun _ h=>h) (fun q hq=>Nat.lt_of_lt_of_le (h.tr.lt q hq) hst.size)
           cel:=h.cel.set 6 v,te:=h.te.step hst,tt:=h.tt.step hst
           rt:=h.rt.keep (fun g hg=>hs g (h.tf g hg).2.2) hst (fun _ h=>h),rb:=h.rb.keep (fun g hg=>hs g (h.bf g hg).2.2) hst (fun _ h=>h),rx:=h.rx.keep (fun g hg=>hs g (h.xf g hg).2.2) hst (fun _ h=>h)
           ws:=h.ws,wf:=h.wf,tf:=h.tf,bf:=h.bf,xf:=h.xf,tx:=h.tx,tbn:=h.tbn,bx:=h.bx },hst⟩
theorem StX.pushT {n:Nat} (h:StX w tb db pb fr D l wb top k S F G tev ttv ctv cbv tv bv xv) (hg:w.grownBy w' tv.ownBlock) (hl:v'.ownBlock=tv.ownBlock∨v'.ownBlock=some w.heap.size)
  (hr:Ro kdIn 3 w' (Sv S v') v' (ints (k.T++[n]))) :
  StX w' tb db pb fr D l wb top ⟨k.T++[n],k.BL,k.X⟩ (Sv S v') F G tev ttv ctv cbv v' bv xv∧Step S w w' (Sv S v'):=by
 have hsame:∀ g,g < w.heap.size→tv.ownBlock≠some g→w'.heap[g]? = w.heap[g]?:=fun g hg1 hg3=>hg.block g hg1 (fun e=>hg3 e.symm)
 have hst:Step S w w' (Sv S v'):=step_own hg (fun q hq=>h.rt.inS hq) hl
 have hvx:∀ q,v'.ownBlock=some q→tv.ownBlock=some q∨w.heap.size≤q:=fun q hq=>by
  rcases hl with e | e
  ·exact .inl (e ▸ hq)
  ·rw [e] at hq
   cases hq
   exact .inr (Nat.le_refl _)
 refine ⟨{
  tr:=h.tr.turn hst (fun q hq=>?_) (fun q hq=>.inl hq) (fun q hq=>?_)
  cel:=h.cel.kept (hsame _ h.cel.lt (fun e=>(h.tf wb e).2.2 rfl)),te:=h.te.step hst,tt:=h.tt.step hst
  rt:=hr
  rb:=h.rb.keep (fun g hg1=>hsame g (h.rb.own hg1) (fun e=>h.tbn g e hg1)) hst (fun q hq=>.inl hq)
  rx:=h.rx.keep (fun g hg1=>hsame g (h.rx.own hg1) (fun e=>h.tx g e hg1)) hst (fun q hq=>.inl hq)
  ws:=.inl h.ws,wf:=h.wf,bf:=h.bf,xf:=h.xf
  tf:=fun q hq=>?_
  tx:=fun q hq hq2=>?_
  tbn:=fun q hq hq2=>?_
  bx:=h.bx },hst⟩
 ·have hq1:q < w.heap.size:=h.tr.lt q (hq.elim (h.tr.fs q) (h.tr.gs q))
  exact hsame q hq1 (fun e=>hq.elim (h.tf q e).1 (h.tf q e).2.1)
 ·rcases hq with hq | hq
  ·exact Nat.lt_of_lt_of_le (h.tr.lt q hq) hst.size
  ·exact hr.own hq
 ·rcases hvx q hq with h1 | h1
  ·exact h.tf q h1
  ·refine ⟨fun hf=>?_,fun hf=>?_,fun e=>?_⟩
   ·have:=h.tr.lt q (h.tr.fs q hf); omega
   ·have:=h.tr.lt q (h.tr.gs q hf); omega
   ·have:=h.cel.lt; omega
 ·rcases hvx q hq with h1 | h1
  ·exact h.tx q h1 hq2
  ·have:=h.rx.own hq2; omega
 ·rcases hvx q hq with h1 | h1
  ·exact h.tbn q h1 hq2
  ·have:=h.rb.own hq2; omega
theorem StX.pushB {b:Bytes} (h:StX w tb db pb fr D l wb top k S F G tev ttv ctv cbv tv bv xv) (hg:w.grownBy w' bv.ownBlock) (hl:v'.ownBlock=bv.ownBlock∨v'.ownBlock=some w.heap.size)
  (hr:Ro kdBs 24 w' (Sv S v') v' (k.BL++[b])) :
  StX w' tb db pb fr D l wb top ⟨k.T,k.BL++[b],k.X⟩ (Sv S v') F G tev ttv ctv cbv tv v' xv∧Step S w w' (Sv S v'):=by
 have hsame:∀ g,g < w.heap.size→bv.ownBlock≠some g→w'.heap[g]? = w.heap[g]?:=fun g hg1 hg3=>hg.block g hg1 (fun e=>hg3 e.symm)
 have hst:Step S w w' (Sv S v'):=step_own hg (fun q hq=>h.rb.inS hq) hl
 have hvx:∀ q,v'.ownBlock=some q→bv.ownBlock=some q∨w.heap.size≤q:=fun q hq=>by
  rcases hl with e | e
  ·exact .inl (e ▸ hq)
  ·rw [e] at hq
   cases hq
   exact .inr (Nat.le_refl _)
 refine ⟨{
  tr:=h.tr.turn hst (fun q hq=>?_) (fun q hq=>.inl hq) (fun q hq=>?_)
  cel:=h.cel.kept (hsame _ h.cel.lt (fun e=>(h.bf wb e).2.2 rfl)),te:=h.te.step hst,tt:=h.tt.step hst
  rt:=h.rt.keep (fun g hg1=>hsame g (h.rt.own hg1) (fun e=>h.tbn g hg1 e)) hst (fun q hq=>.inl hq)
  rb:=hr
  rx:=h.rx.keep (fun g hg1=>hsame g (h.rx.own hg1) (fun e=>h.bx g e hg1)) hst (fun q hq=>.inl hq)
  ws:=.inl h.ws,wf:=h.wf,tf:=h.tf,xf:=h.xf
  bf:=fun q hq=>?_
  tx:=h.tx
  tbn:=fun q hq hq2=>?_
  bx:=fun q hq hq2=>?_ },hst⟩
 ·have hq1:q < w.heap.size:=h.tr.lt q (hq.elim (h.tr.fs q) (h.tr.gs q))
  exact hsame q hq1 (fun e=>hq.elim (h.bf q e).1 (h.bf q e).2.1)
 ·rcases hq with hq | hq
  ·exact Nat.lt_of_lt_of_le (h.tr.lt q hq) hst.size
  ·exact hr.own hq
 ·rcases hvx q hq with h1 | h1
  ·exact h.bf q h1
  ·refine ⟨fun hf=>?_,fun hf=>?_,fun e=>?_⟩
   ·have:=h.tr.lt q (h.tr.fs q hf); omega
   ·have:=h.tr.lt q (h.tr.gs q hf); omega
   ·have:=h.cel.lt; omega
 ·rcases hvx q hq2 with h1 | h1
  ·exact h.tbn q hq h1
  ·have:=h.rt.own hq; omega
 ·rcases hvx q hq with h1 | h1
  ·exact h.bx q h1 hq2
  ·have:=h.rx.own hq2; omega
theorem StAt.shrink (h:StAt w tb db pb fr D l wb top k S F G tev ttv tv bv xv) (hs:∀ q,S' q→S q) (hF:∀ q,F q→S' q) (hG:∀ q,G q→S' q) (hw:S' wb) (ht:∀ q,tv.ownBlock=some q→S' q) (hb:∀ q,bv.ownBlock=some q→S' q) (hx:∀ q,xv.ownBlock=some q→S' q) :
  StAt w tb db pb fr D l wb top k S' F G tev ttv tv bv xv:=by
 have hst:Step S w w S':=⟨Only.refl _ _,fun q hq=>.inl (hs q hq)⟩
 exact { tr:=⟨h.tr.tree,h.tr.dev,h.tr.pgs,h.tr.fg,hF,hG,fun q hq=>h.tr.lt q (hs q hq),fun hq=>h.tr.out (hs tb hq),h.tr.room⟩
         cel:=h.cel,te:=h.te.step hst,tt:=h.tt.step hst
         rt:=let ⟨a,b,c,d,_⟩:=h.rt; ⟨a,b,c,fun t ht'=>kdIn.step (d t ht') hst,ht⟩
         rb:=let ⟨a,b,c,d,_⟩:=h.rb; ⟨a,b,c,fun t ht'=>kdBs.step (d t ht') hst,hb⟩
         rx:=let ⟨a,b,c,d,_⟩:=h.rx; ⟨a,b,c,fun t ht'=>kdIn.step (d t ht') hst,hx⟩
         ws:=hw,wf:=h.wf,tf:=h.tf,bf:=h.bf,xf:=h.xf,tx:=h.tx,tbn:=h.tbn,bx:=h.bx }
end
end Go.Proofs.YtgkofgifoiinkaaGreat
namespace Go.Proofs.YtgkofgifoiinkaaGreat
open Go.RowKit
def tdones:Nat→List Pg→List Pg
 | 0,l=>l
 | j+1,l=>tdone (tdones j l)
theorem tdones_length (l:List Pg):∀ j:Nat,(tdones j l).length=l.length
 | 0=>rfl
 | j+1=>by rw [tdones,tdone_length,tdones_length l j]
def tooks (l:List Pg) (j:Nat):Nat:=(tpage (tdones j l)).toNat
def hkey (n:Nd):Bytes:=match n.ents[0]? with | some e=>e.key | none=>[]
def placeT (l:List Pg) (i:Nat):List Nat:=(List.range i).map (tooks l)
def placeB (ns:List Nd) (i:Nat):List Bytes:=(ns.take i).map fun n=>sealL 3 (bodyL n.lvl n.ents)
def placeE (l:List Pg) (ns:List Nd) (i:Nat):List En:=(List.range i).map fun j=>⟨((ns[j]?).map hkey).getD [],[],tooks l j⟩
theorem placeT_succ (l:List Pg) (i:Nat):placeT l (i+1)=placeT l i++[tooks l i]:=by simp [placeT,List.range_succ]
theorem placeB_succ {ns:List Nd} {i:Nat} {n:Nd} (h:ns[i]? = some n):placeB ns (i+1)=placeB ns i++[sealL 3 (bodyL n.lvl n.ents)]:=by
 unfold placeB
 rw [List.take_add_one,h]
 simp
theorem placeE_succ (l:List Pg) {ns:List Nd} {i:Nat} {n:Nd} (h:ns[i]? = some n):placeE l ns (i+1)=placeE l ns i++[⟨hkey n,[],tooks l i⟩]:=by
 simp [placeE,List.range_succ,h]
theorem placeT_length (l:List Pg) (i:Nat):(placeT l i).length=i:=by simp [placeT]
theorem placeE_length (l:List Pg) (ns:List Nd) (i:Nat):(placeE l ns i).length=i:=by simp [placeE]
theorem placeB_length {ns:List Nd} {i:Nat} (h:i≤ns.length):(placeB ns i).length=i:=by simp [placeB]; omega
structure PlX (w0 w:World) (tb db pb fr:Nat) (D:Dv) (l:List Pg) (wb:Nat) (top:Nd) (k:Wk) (S0 S F G:Nat→Prop) (tev ttv ctv cbv tv bv xv:Value) (lv:Value) (ns:List Nd) (cv:Value) (es:List En) (zn:Nat) (nv:List Value) (nev:Value) (nes:List En) (sv:Value) (b:Bytes):Prop where
 x:StX w tb db pb fr D l wb top k S F G tev ttv ctv cbv tv bv xv
 ro:Ro kdEn 197 w S cv es
 nd:Rd kdNd w S lv ns
 ne:Rd kdEn w S nev nes
 stp:Step S0 w0 w S
 inc:∀ q,S0 q→S q
 new:∀ q,cv.ownBlock=some q→w0.heap.size≤q
 tc:∀ q,tv.ownBlock=some q→cv.ownBlock≠some q
 bc:∀ q,bv.ownBlock=some q→cv.ownBlock≠some q
 cn:Cel w zn nv 179
 zs:¬ S zn
 sb:Bsf w S sv b
section
variable {w0 w w':World} {tb db pb fr:Nat} {D:Dv} {l:List Pg} {wb:Nat} {top:Nd} {k:Wk} {S0 S F G:Nat→Prop} {tev ttv ctv cbv tv bv xv lv cv nev sv:Value} {ns:List Nd} {es nes:List En} {zn:Nat} {nv:List Value} {b:Bytes}
theorem PlX.bel (h:PlX w0 w tb db pb fr D l wb top k S0 S F G tev ttv ctv cbv tv bv xv lv ns cv es zn nv nev nes sv b) (hb:Below w.heap.size w w'):PlX w0 w' tb db pb fr D l wb top k S0 S F G tev ttv ctv cbv tv bv xv lv ns cv es zn nv nev nes sv b :=
 have hst:Step S w w' S:=Step.of_below hb S
 {x:=h.x.below hb,ro:=h.ro.below hb,nd:=h.nd.step hst,ne:=h.ne.step hst,stp:=h.stp.trans hst,inc:=h.inc,new:=h.new,tc:=h.tc,bc:=h.bc,cn:=h.cn.below hb h.cn.lt,zs:=h.zs,sb:=h.sb.step hst }
theorem PlX.took {l':List Pg} (h:PlX w0 w tb db pb fr D l wb top k S0 S F G tev ttv tv bv tv bv xv lv ns cv es zn nv nev nes sv b) (hs:StAt w' tb db pb fr D l' wb top k S F G tev ttv tv bv xv) (hst:Step S w w' S) (hon:Only G w w') (hc:∀ q,cv.ownBlock=some q→¬ G q) :
  PlX w0 w' tb db pb fr D l' wb top k S0 S F G tev ttv tv bv tv bv xv lv ns cv es zn nv nev nes sv b :=
 {x:=hs.x,ro:=h.ro.keep (fun g hg=>hon.block g (h.ro.own hg) (hc g hg)) hst (fun _ h=>h),nd:=h.nd.step hst,ne:=h.ne.step hst,stp:=h.stp.trans hst,inc:=h.inc,new:=h.new,tc:=h.tc,bc:=h.bc,cn:=h.cn.kept (hon.block _ h.cn.lt fun hq=>h.zs (h.x.tr.gs _ hq)),zs:=h.zs,sb:=h.sb.step hst }
theorem PlX.alloc (h:PlX w0 w tb db pb fr D l wb top k S0 S F G tev ttv ctv cbv tv bv xv lv ns cv es zn nv nev nes sv b) (o:Obj):PlX w0 (w.alloc o) tb db pb fr D l wb top k S0 S F G tev ttv ctv cbv tv bv xv lv ns cv es zn nv nev nes sv b :=
 have hst:Step S w (w.alloc o) S:=(Step.refl S w).alloc o
 {x:=h.x.alloc o,ro:=h.ro.below ((Below.refl _ _).alloc (Nat.le_refl _) o),nd:=h.nd.step hst,ne:=h.ne.step hst,stp:=h.stp.alloc o,inc:=h.inc,new:=h.new,tc:=h.tc,bc:=h.bc,cn:=h.cn.alloc o,zs:=h.zs,sb:=h.sb.step hst }
theorem PlX.setT (h:PlX w0 w tb db pb fr D l wb top k S0 S F G tev ttv ctv cbv tv bv xv lv ns cv es zn nv nev nes sv b) (hw:∀ q,cv.ownBlock=some q→q≠wb) (v:Value):PlX w0 (w.setCell ⟨wb,5,none⟩ v) tb db pb fr D l wb top k S0 S F G tev ttv v cbv tv bv xv lv ns cv es zn nv nev nes sv b :=
 have hx:=h.x.setT v
 have hs:∀ g,g≠wb→(w.setCell ⟨wb,5,none⟩ v).heap[g]? = w.heap[g]?:=fun g hg=>Below.heap_setCell _ _ _ _ hg
 {x:=hx.1,ro:=h.ro.keep (fun g hg=>hs g (hw g hg)) hx.2 (fun _ h=>h),nd:=h.nd.step hx.2,ne:=h.ne.step hx.2,stp:=h.stp.trans hx.2,inc:=h.inc,new:=h.new,tc:=h.tc,bc:=h.bc,cn:=h.cn.kept (hs _ fun e=>h.zs (e ▸ h.x.ws)),zs:=h.zs,sb:=h.sb.step hx.2 }
theorem PlX.setB (h:PlX w0 w tb db pb fr D l wb top k S0 S F G tev ttv ctv cbv tv bv xv lv ns cv es zn nv nev nes sv b) (hw:∀ q,cv.ownBlock=some q→q≠wb) (v:Value):PlX w0 (w.setCell ⟨wb,6,none⟩ v) tb db pb fr D l wb top k S0 S F G tev ttv ctv v tv bv xv lv ns cv es zn nv nev nes sv b :=
 have hx:=h.x.setB v
 have hs:∀ g,g≠wb→(w.setCell ⟨wb,6,none⟩ v).heap[g]? = w.heap[g]?:=fun g hg=>Below.heap_setCell _ _ _ _ hg
 {x:=hx.1,ro:=h.ro.keep (fun g hg=>hs g (hw g hg)) hx.2 (fun _ h=>h),nd:=h.nd.step hx.2,ne:=h.ne.step hx.2,stp:=h.stp.trans hx.2,inc:=h.inc,new:=h.new,tc:=h.tc,bc:=h.bc,cn:=h.cn.kept (hs _ fun e=>h.zs (e ▸ h.x.ws)),zs:=h.zs,sb:=h.sb.step hx.2 }
theorem PlX.pushT {n:Nat} {xl:Value} (h:PlX w0 w tb db pb fr D l wb top k S0 S F G tev ttv ctv cbv tv bv xv lv ns cv es zn nv nev nes sv b) (hx:Rd kdIn w S xl [(n:Int)]) (hn:k.T.length≤1000000) :
  ∃ v' w',(Builtin.append_ #[40,40] 40 #[tv,xl]).run Tryz.prog w = .ok v' w'∧PlX w0 w' tb db pb fr D l wb top ⟨k.T++[n],k.BL,k.X⟩ S0 (Sv S v') F G tev ttv ctv cbv v' bv xv lv ns cv es zn nv nev nes sv b∧Step S w w' (Sv S v'):=by
 obtain ⟨v',w',hrun,ro6,st6,gr6,lo6⟩:=run_append_ro int_ty 40 h.x.rt hx (by rw [ints_length]; simp; omega)
 have hlv:ints k.T++[(n:Int)]=ints (k.T++[n]):=by simp [ints]
 rw [hlv] at ro6
 obtain ⟨h1,h2⟩:=h.x.pushT gr6 lo6 ro6
 have hz:=h.cn.lt
 refine ⟨v',w',hrun, { x:=h1,ro:=?_,nd:=h.nd.step h2,ne:=h.ne.step h2,stp:=h.stp.trans h2,inc:=fun q hq=>.inl (h.inc q hq),new:=h.new,tc:=fun q hq hc=>?_,bc:=h.bc,cn:=?_,zs:=fun hz1=>?_,sb:=h.sb.step h2 },h2⟩
 ·exact h.ro.keep (fun g hg=>gr6.block g (h.ro.own hg) fun e=>h.tc g e.symm hg) h2 fun q hq=>.inl hq
 ·rcases lo6 with e | e
  ·exact h.tc q (e ▸ hq) hc
  ·rw [e] at hq
   cases hq
   have:=h.ro.own hc
   omega
 ·exact h.cn.kept (gr6.block _ hz fun e=>h.zs (h.x.rt.inS e.symm))
 ·rcases hz1 with hz1 | hz1
  ·exact h.zs hz1
  ·rcases lo6 with e | e
   ·exact h.zs (h.x.rt.inS (e ▸ hz1))
   ·rw [e] at hz1
    cases hz1
    omega
theorem PlX.pushB {c:Bytes} {xl:Value} (h:PlX w0 w tb db pb fr D l wb top k S0 S F G tev ttv ctv cbv tv bv xv lv ns cv es zn nv nev nes sv b) (hx:Rd kdBs w S xl [c]) (hn:k.BL.length≤1000000) :
  ∃ v' w',(Builtin.append_ #[69,69] 69 #[bv,xl]).run Tryz.prog w = .ok v' w'∧PlX w0 w' tb db pb fr D l wb top ⟨k.T,k.BL++[c],k.X⟩ S0 (Sv S v') F G tev ttv ctv cbv tv v' xv lv ns cv es zn nv nev nes sv b∧Step S w w' (Sv S v'):=by
 obtain ⟨v',w',hrun,ro6,st6,gr6,lo6⟩:=run_append_ro byt_ty 69 h.x.rb hx (by simp; omega)
 obtain ⟨h1,h2⟩:=h.x.pushB gr6 lo6 ro6
 have hz:=h.cn.lt
 refine ⟨v',w',hrun, { x:=h1,ro:=?_,nd:=h.nd.step h2,ne:=h.ne.step h2,stp:=h.stp.trans h2,inc:=fun q hq=>.inl (h.inc q hq),new:=h.new,tc:=h.tc,bc:=fun q hq hc=>?_,cn:=?_,zs:=fun hz1=>?_,sb:=h.sb.step h2 },h2⟩
 ·exact h.ro.keep (fun g hg=>gr6.block g (h.ro.own hg) fun e=>h.bc g e.symm hg) h2 fun q hq=>.inl hq
 ·rcases lo6 with e | e
  ·exact h.bc q (e ▸ hq) hc
  ·rw [e] at hq
   cases hq
   have:=h.ro.own hc
   omega
 ·exact h.cn.kept (gr6.block _ hz fun e=>h.zs (h.x.rb.inS e.symm))
 ·rcases hz1 with hz1 | hz1
  ·exact h.zs hz1
  ·rcases lo6 with e | e
   ·exact h.zs (h.x.rb.inS (e ▸ hz1))
   ·rw [e] at hz1
    cases hz1
    omega
theorem StAt.other {v':Value} (h:StAt w tb db pb fr D l wb top k S F G tev ttv tv bv xv) (hc:∀ q,cv.ownBlock=some q→¬ F q∧¬ G q∧q≠wb∧tv.ownBlock≠some q∧bv.ownBlock≠some q∧xv.ownBlock≠some q) (hg:w.grownBy w' cv.ownBlock)
  (hst:Step S w w' (Sv S v')) (hlt:∀ q,v'.ownBlock=some q→q < w'.heap.size):StAt w' tb db pb fr D l wb top k (Sv S v') F G tev ttv tv bv xv:=by
 have hsame:∀ g,g < w.heap.size→cv.ownBlock≠some g→w'.heap[g]? = w.heap[g]?:=fun g hg1 hg3=>hg.block g hg1 (fun e=>hg3 e.symm)
 exact {
  tr:=h.tr.turn hst (fun q hq=>hsame q (h.tr.lt q (hq.elim (h.tr.fs q) (h.tr.gs q))) fun e=>hq.elim (hc q e).1 (hc q e).2.1) (fun q hq=>.inl hq) (fun q hq=>hq.elim (fun h1=>Nat.lt_of_lt_of_le (h.tr.lt q h1) hst.size) (hlt q))
  cel:=h.cel.kept (hsame _ h.cel.lt fun e=>(hc wb e).2.2.1 rfl),te:=h.te.step hst,tt:=h.tt.step hst
  rt:=h.rt.keep (fun g hg1=>hsame g (h.rt.own hg1) fun e=>(hc g e).2.2.2.1 hg1) hst (fun q hq=>.inl hq)
  rb:=h.rb.keep (fun g hg1=>hsame g (h.rb.own hg1) fun e=>(hc g e).2.2.2.2.1 hg1) hst (fun q hq=>.inl hq)
  rx:=h.rx.keep (fun g hg1=>hsame g (h.rx.own hg1) fun e=>(hc g e).2.2.2.2.2 hg1) hst (fun q hq=>.inl hq)
  ws:=.inl h.ws,wf:=h.wf,tf:=h.tf,bf:=h.bf,xf:=h.xf,tx:=h.tx,tbn:=h.tbn,bx:=h.bx }
def PlMid (w0 w:World) (tb db pb fr:Nat) (D:Dv) (l:List Pg) (wb:Nat) (top:Nd) (k:Wk) (S0 F G:Nat→Prop) (tev ttv xv:Value) (lv:Value) (ns:List Nd) (cv:Value) (es:List En) (zn:Nat) (nv:List Value) (nev:Value) (nes:List En) (sv:Value) (b:Bytes):Prop :=
 ∃ S tv bv,PlX w0 w tb db pb fr D l wb top k S0 S F G tev ttv tv bv tv bv xv lv ns cv es zn nv nev nes sv b
theorem PlX.litT (h:PlX w0 w tb db pb fr D l wb top k S0 S F G tev ttv ctv cbv tv bv xv lv ns cv es zn nv nev nes sv b) (n:Nat) :
  Rd kdIn (w.alloc (.cells #[.int .i64 (n:Int)] 3)) S (.slice (some ⟨w.heap.size,0,none⟩) 1 1) [(n:Int)] :=
 rd_lit kdIn w 3 S h.x.tr.lt [(n:Int)] _ rfl (fun _ _=>trivial) (by simp) rfl
theorem PlX.litB {sa:Option Addr} {sn sc:Nat} (h:PlX w0 w tb db pb fr D l wb top k S0 S F G tev ttv ctv cbv tv bv xv lv ns cv es zn nv nev nes (.slice sa sn sc) b) :
  Rd kdBs (w.alloc (.cells #[.slice sa sn sc] 24)) S (.slice (some ⟨w.heap.size,0,none⟩) 1 1) [b] :=
 rd_lit kdBs w 24 S h.x.tr.lt [⟨⟨sa,sn,sc⟩,b⟩] _ rfl (fun t ht=>by rw [List.mem_singleton] at ht; subst ht; exact h.sb) (by simp) rfl
end
end Go.Proofs.YtgkofgifoiinkaaGreat
