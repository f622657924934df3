/- A list that a call's rounds lengthen, in a variable of the call, beside the loop's record: what it holds, step by step; no condition. -/
import Derived.Test.YtgkofgifoiinkaaGreatN36
import Derived.Test.YtgkofgifoiinkaaGreatN18
import Derived.OwnWalkIn
namespace Go.Proofs.YtgkofgifoiinkaaGreat
open Go.RowKit
attribute [local go_sem] Oper.semAt_some
theorem pairs_any (tb:Nat) (root:Int) (fv tv:Value) (w:World):Calls Tryz.prog 120 #[ptr tb, .int .i64 root,spv fv tv] w fun e w' =>
  e = .returned (.func (.func 148) #[] #[.pointer (some ⟨w.heap.size,0,none⟩), .pointer (some ⟨w.heap.size+1,0,none⟩), .pointer (some ⟨w.heap.size+2,0,none⟩)]) ∧
  w'=((w.alloc (.cells #[ptr tb] 86)).alloc (.cells #[.int .i64 root] 3)).alloc (.cells #[fv,tv] 176):=by
 go_enter Tryz.func120,Tryz.ntmps120
 go_wp2
 go_ret
 exact ⟨rfl,rfl⟩
def TakesP (J:List Pr→World→(Nat→Prop)→(Nat→Prop)→Prop) (S:Nat→Prop) (M L:Nat):Prop :=
 ∀ m acc (p:Pr) ka kc va vc W C F,J acc W C F→Bsf W (Su S F) (.slice ka p.1.length kc) p.1→Bsf W (Su S F) (.slice va p.2.length vc) p.2→acc.length < M →
  YieldAt Fence.wide m Tryz.prog L #[.agg #[.slice ka p.1.length kc, .slice va p.2.length vc],err 0] W fun e W'=>e = .returned (.bool true)∧∃ C' F',Step C W W' C'∧J (acc++[p]) W' C' F'∧(∀ q,F q→F' q)∧∀ q,F' q→F q∨W.heap.size≤q
structure PJ (J:List Pr→World→(Nat→Prop)→(Nat→Prop)→Prop) (f t:Bytes) (fv tv yv:Value) (L yb sb db:Nat) (r:Loop) (pre:List Pr) (W:World) (C C2 F:Nat→Prop):Prop where
 hj:J pre W C F
 cc:∀ q,C2 q↔C q∨q=L∨q=db
 cl:¬ C L
 fl:F L
 cd:¬ C db
 fd:F db
 ll:W.heap[L]? = some (.loop r)
 cy:Cel W yb [yv] 215
 fy:¬ F yb
 cs:Cel W sb [fv,tv] 176
 fs:¬ F sb
 dd:W.heap[db]? = some (.deferred (some []))
section
variable {w:World} {J:List Pr→World→(Nat→Prop)→(Nat→Prop)→Prop} {tb db pb fr M L:Nat} {D:Dv} {ps:List Pg} {S:Nat→Prop} {fv tv:Value} {f t:Bytes}
theorem PJ.stay {yv:Value} {yb sb db:Nat} {r:Loop} {pre:List Pr} {W W':World} {C C2 F F':Nat→Prop} (H:HoldsT w J) (h:PJ J f t fv tv yv L yb sb db r pre W C C2 F) (hst:Step F W W' F') (hc:∀ q,C2 q→W'.heap[q]? = W.heap[q]?) (hf:∀ q,F q→F' q) (hl:∀ q,F' q→q < W'.heap.size) :
  PJ J f t fv tv yv L yb sb db r pre W' C C2 F':=by
 have hno:∀ q,q < W.heap.size→¬ F q→¬ F' q:=fun q hq hn h'=>(hst.more q h').elim hn fun h2=>by omega
 exact { hj:=H.stay h.hj hst (fun q hq=>hc q ((h.cc q).2 (.inl hq))) hf hl,cc:=h.cc,cl:=h.cl,fl:=hf L h.fl,cd:=h.cd,fd:=hf db h.fd,ll:=(hc L ((h.cc L).2 (.inr (.inl rfl)))).trans h.ll
         cy:=h.cy.only hst.only h.fy,fy:=hno _ h.cy.lt h.fy,cs:=h.cs.only hst.only h.fs,fs:=hno _ h.cs.lt h.fs,dd:=(hc db ((h.cc db).2 (.inr (.inr rfl)))).trans h.dd }
theorem PJ.holds {yv:Value} {yb sb db:Nat} {r:Loop} (H:HoldsT w J) (hL:w.heap.size≤L):HoldsT w (fun (acc:List Nd) W C2 F=>(∀ n∈acc,n.ents.length≤503)∧∃ C,PJ J f t fv tv yv L yb sb db r (inSpan f t (ndPrs acc)) W C C2 F):=by
 refine ⟨fun ⟨_,C,h⟩=>?_,fun ⟨h0,C,h⟩ hst hc hf hl=>⟨h0,C,h.stay H hst hc hf hl⟩⟩
 obtain ⟨h1,h2,h3⟩:=H.base h.hj
 exact ⟨h1,fun q hq=>((h.cc q).1 hq).elim (h2 q) fun e=>e.elim (fun e=>e ▸ h.fl) fun e=>e ▸ h.fd,h3⟩
theorem PJ.turn {yv:Value} {yb sb db:Nat} {r r':Loop} {pre:List Pr} {W:World} {C C2 F:Nat→Prop} (H:HoldsT w J) (h:PJ J f t fv tv yv L yb sb db r pre W C C2 F):PJ J f t fv tv yv L yb sb db r' pre (W.putObj L (.loop r')) C C2 F∧Step C2 W (W.putObj L (.loop r')) C2:=by
 have hlt:=(Array.getElem?_eq_some_iff.1 h.ll).1
 have hk:∀ q,q≠L→(W.putObj L (.loop r')).heap[q]? = W.heap[q]?:=fun q hq=>World.putObj_heap_other hq
 have hz:W.heap.size≤(W.putObj L (.loop r')).heap.size:=by simp [World.putObj]
 have ho:∀ X:Nat→Prop,X L→Step X W (W.putObj L (.loop r')) X:=fun X hX=>⟨⟨rfl,rfl,rfl,hz,fun q _ hq=>hk q fun e=>hq (e ▸ hX)⟩,fun _ h=>.inl h⟩
 have hdl:db≠L:=fun e=>by
  have h1:=h.dd
  rw [e,h.ll] at h1
  cases h1
 obtain ⟨h1,h2,h3⟩:=H.base h.hj
 refine ⟨{ hj:=H.stay h.hj (ho F h.fl) (fun q hq=>hk q fun e=>h.cl (e ▸ hq)) (fun _ h=>h) (fun q hq=>Nat.lt_of_lt_of_le (h3 q hq).2 hz),cc:=h.cc,cl:=h.cl,fl:=h.fl,cd:=h.cd,fd:=h.fd,ll:=World.putObj_heap_same hlt
           cy:=h.cy.only (ho F h.fl).only h.fy,fy:=h.fy,cs:=h.cs.only (ho F h.fl).only h.fs,fs:=h.fs,dd:=(hk _ hdl).trans h.dd },ho C2 ((h.cc L).2 (.inr (.inl rfl)))⟩
theorem PJ.below {yv:Value} {yb sb db:Nat} {r:Loop} {pre:List Pr} {W W':World} {C C2 F:Nat→Prop} (H:HoldsT w J) (h:PJ J f t fv tv yv L yb sb db r pre W C C2 F) (hb:Below W.heap.size W W'):PJ J f t fv tv yv L yb sb db r pre W' C C2 F:=by
 obtain ⟨h1,h2,h3⟩:=H.base h.hj
 exact h.stay H (Step.of_below hb F) (fun q hq=>hb.block q (h3 q (((h.cc q).1 hq).elim (h2 q) fun e=>e.elim (fun e=>e ▸ h.fl) fun e=>e ▸ h.fd)).2) (fun _ h=>h) (fun q hq=>Nat.lt_of_lt_of_le (h3 q hq).2 hb.size)
theorem PJ.took {yv:Value} {yb sb db:Nat} {r:Loop} {pre pre':List Pr} {W W':World} {C C' C2 F F':Nat→Prop} (H:HoldsT w J) (h:PJ J f t fv tv yv L yb sb db r pre W C C2 F) (hst:Step C W W' C') (hj:J pre' W' C' F') (h1:∀ q,F q→F' q) (h2:∀ q,F' q→F q∨W.heap.size≤q) :
  PJ J f t fv tv yv L yb sb db r pre' W' C' (fun q=>C' q∨q=L∨q=db) F'∧Step C2 W W' (fun q=>C' q∨q=L∨q=db):=by
 obtain ⟨g1,g2,g3⟩:=H.base h.hj
 have hL:=(Array.getElem?_eq_some_iff.1 h.ll).1
 have hD:=(Array.getElem?_eq_some_iff.1 h.dd).1
 have hF:Step F W W' F':=taken_step hst g2 h2
 refine ⟨{ hj:=hj,cc:=fun _=>Iff.rfl,cl:=fun hq=>(hst.more _ hq).elim h.cl fun h=>by omega,fl:=h1 _ h.fl,cd:=fun hq=>(hst.more _ hq).elim h.cd fun h=>by omega,fd:=h1 _ h.fd
           ll:=(hst.only.block _ hL h.cl).trans h.ll,cy:=h.cy.only hF.only h.fy,fy:=fun hq=>(h2 _ hq).elim h.fy fun hh=>by have:=h.cy.lt; omega
           cs:=h.cs.only hF.only h.fs,fs:=fun hq=>(h2 _ hq).elim h.fs fun hh=>by have:=h.cs.lt; omega,dd:=(hst.only.block _ hD h.cd).trans h.dd },?_⟩
 refine ⟨hst.only.mono fun q _ hq=>(h.cc q).2 (.inl hq),fun q hq=>?_⟩
 rcases hq with hq | hq
 ·exact (hst.more q hq).imp (fun hq=>(h.cc q).2 (.inl hq)) id
 ·exact .inl ((h.cc q).2 (.inr hq))
set_option maxRecDepth 100000 in
set_option maxHeartbeats 8000000 in
theorem pairs1_any (H:HoldsT w J) (hT:TrS w tb db pb fr D ps S) (ho:D.on=true) (hf:Bsf w S fv f) (hs:Bsf w S tv t) (hY:TakesP J S (M*503) L) {root:Int} {prs:List Pr} {pgs:List Nat} {W:World} {C F:Nat→Prop} {rb bb sb:Nat}
  (hR:Rt (blkOf D fr) ps.length root prs pgs) (hJ:J [] W C F) (c1:W.cell? ⟨rb,0,none⟩=some (.int .i64 root)) (c2:W.cell? ⟨bb,0,none⟩=some (ptr tb)) (c3:Cel W sb [fv,tv] 176) (hsb:¬ F sb) (hM:pgs.length≤M) :
  Calls Tryz.prog 148 #[.func (.yield L) #[] #[], .pointer (some ⟨bb,0,none⟩), .pointer (some ⟨rb,0,none⟩), .pointer (some ⟨sb,0,none⟩)] W
   fun e W'=>(∃ r,e = .returned r)∧∃ C' F',Step F W W' F'∧J (inSpan f t prs) W' C' F':=by
 refine calls_of_wp_marked 12 Tryz.func148 rfl ?_
 simp only [Tryz.ntmps148,List.size_toArray,List.length_cons,List.length_nil,Nat.reduceAdd,Nat.reduceSub,Array.replicate_succ,Array.replicate_zero,List.push_toArray,List.append_toArray,List.nil_append,List.cons_append]
 have hb0:Below W.heap.size W (W.alloc (.cells #[.func (.yield L) #[] #[]] 215)):=(Below.refl _ _).alloc (Nat.le_refl _) _
 have d1:=(hb0.cell (p:=⟨rb,0,none⟩) (World.block_lt_of_cell? _ _ c1)).trans c1
 have d2:=(hb0.cell (p:=⟨bb,0,none⟩) (World.block_lt_of_cell? _ _ c2)).trans c2
 have C3:=c3.below hb0 c3.lt
 have d3:=C3.cell 0
 have d4:=C3.cell 1
 have CY:=Cel.new W #[.func (.yield L) #[] #[]] 215
 have NA:=nodes_any tb root fv tv (W.alloc (.cells #[.func (.yield L) #[] #[]] 215))
 have HC:=Lib.hid (anZ hb0 (anZ C3 (anZ CY (anZ hR (anZ hJ (anZ hsb (anZ hM c3.lt)))))))
 have HT:=Lib.hid (anZ hT (anZ hf hs))
 clear hb0 C3 CY hR hJ hsb hM c1 c2 c3 hT hf hs
 go_wp2_with fail
 refine NA.mono ?_
 rintro e w1 ⟨rfl,rfl⟩
 clear NA d1 d2 d3 d4
 go_wp2
 obtain ⟨hb0,C3,CY,hR,hJ,hsb,hM,hsbl⟩:=HC.out
 have hz0:(W.alloc (.cells #[.func (.yield L) #[] #[]] 215)).heap.size=W.heap.size+1:=by simp
 have B1:=((Cel.new (W.alloc (.cells #[.func (.yield L) #[] #[]] 215)) #[ptr tb] 86).alloc (.cells #[.int .i64 root] 3)).alloc (.cells #[fv,tv] 176)
 have B2:=(Cel.new ((W.alloc (.cells #[.func (.yield L) #[] #[]] 215)).alloc (.cells #[ptr tb] 86)) #[.int .i64 root] 3).alloc (.cells #[fv,tv] 176)
 have B3:=Cel.new (((W.alloc (.cells #[.func (.yield L) #[] #[]] 215)).alloc (.cells #[ptr tb] 86)).alloc (.cells #[.int .i64 root] 3)) #[fv,tv] 176
 have hz:((((W.alloc (.cells #[.func (.yield L) #[] #[]] 215)).alloc (.cells #[ptr tb] 86)).alloc (.cells #[.int .i64 root] 3)).alloc (.cells #[fv,tv] 176)).heap.size=W.heap.size+4:=by simp
 have hb4:Below W.heap.size W ((((W.alloc (.cells #[.func (.yield L) #[] #[]] 215)).alloc (.cells #[ptr tb] 86)).alloc (.cells #[.int .i64 root] 3)).alloc (.cells #[fv,tv] 176)) :=
  ((hb0.alloc (by simp) _).alloc (by simp; omega) _).alloc (by simp; omega) _
 replace C3:=((C3.alloc (.cells #[ptr tb] 86)).alloc (.cells #[.int .i64 root] 3)).alloc (.cells #[fv,tv] 176)
 replace CY:=((CY.alloc (.cells #[ptr tb] 86)).alloc (.cells #[.int .i64 root] 3)).alloc (.cells #[fv,tv] 176)
 simp only [World.size_alloc,Nat.add_assoc,Nat.reduceAdd] at B1 B2 B3
 simp only [Nat.add_assoc,Nat.reduceAdd]
 generalize (((W.alloc (.cells #[.func (.yield L) #[] #[]] 215)).alloc (.cells #[ptr tb] 86)).alloc (.cells #[.int .i64 root] 3)).alloc (.cells #[fv,tv] 176)=w0 at *
 refine range_on (n:=12) (by decide) (gf:=144) (lb := #[.pointer (some ⟨W.heap.size+2,0,none⟩), .pointer (some ⟨W.heap.size+1,0,none⟩), .pointer (some ⟨W.heap.size+3,0,none⟩)]) rfl (enters_of Tryz.func144 (by kernel_rfl) rfl) ?_
 intro fn rec W1 hrec hW1
 obtain ⟨hT,hf,hs⟩:=HT.out
 have hbase:=H.base hJ
 have bw1:Below w0.heap.size w0 W1:=by rw [hW1]; exact ((Below.refl _ _).alloc (Nat.le_refl _) _).alloc (by simp) _
 have hz1:W1.heap.size=W.heap.size+6:=by rw [hW1]; simp [hz]
 have bwW:Below W.heap.size W W1:=hb4.trans (bw1.mono (by omega))
 have hJ1:J [] W1 C (fun q=>F q∨q=W.heap.size+5∨q=W.heap.size+4):=H.stay hJ ⟨Only.of_below bwW F,fun q hq=>hq.imp id fun h=>by omega⟩ (fun q hq=>bwW.block q (hbase.2.2 q (hbase.2.1 q hq)).2) (fun q hq=>.inl hq) (fun q hq=>by
  rcases hq with h1 | h1
  ·have:=(hbase.2.2 q h1).2; omega
  ·omega)
 have hnC:∀ q,W.heap.size≤q→¬ C q:=fun q hq h=>by have:=(hbase.2.2 q (hbase.2.1 q h)).2; omega
 have hnF:∀ q,W.heap.size≤q→¬ F q:=fun q hq h=>by have:=(hbase.2.2 q h).2; omega
 have hwW:=hbase.1.size
 have hP1:PJ J f t fv tv (.func (.yield L) #[] #[]) (W.heap.size+5) W.heap.size sb (W.heap.size+4) (rec .ready none) (inSpan f t (ndPrs [])) W1 C (fun q=>C q∨q=W.heap.size+5∨q=W.heap.size+4) (fun q=>F q∨q=W.heap.size+5∨q=W.heap.size+4):={
  hj:=hJ1
  cc:=fun q=>Iff.rfl
  cl:=hnC _ (by omega)
  fl:=.inr (.inl rfl)
  cd:=hnC _ (by omega)
  fd:=.inr (.inr rfl)
  ll:=by
   have:=World.alloc_heap_new (w0.alloc (.deferred (some []))) (.loop (rec .ready none))
   rw [World.size_alloc,hz] at this
   rw [hW1]
   exact this
  cy:=CY.below bw1 CY.lt
  fy:=fun h=>h.elim (hnF _ (Nat.le_refl _)) fun h=>by omega
  cs:=C3.below bw1 C3.lt
  fs:=fun h=>h.elim hsb fun h=>by omega
  dd:=by
   rw [hW1, ← hz]
   exact (Below.heap_alloc _ _ _ (by simp)).trans (World.alloc_heap_new w0 _) }
 rw [hz]
 have hTk:TakesN (fun (acc:List Nd) W' C2 F'=>(∀ n∈acc,n.ents.length≤503)∧∃ C,PJ J f t fv tv (.func (.yield L) #[] #[]) (W.heap.size+5) W.heap.size sb (W.heap.size+4) (rec .ready none) (inSpan f t (ndPrs acc)) W' C C2 F') S M (W.heap.size+5):=by
  rintro m acc nd v W2 C2 F2 ⟨hents,C',hP⟩ ⟨ea,ec,ta,tc,rfl,he,ht⟩ hfew hacc
  obtain ⟨npg,nl,nes,nto⟩:=nd
  simp only at he ht hfew hacc
  obtain ⟨en,hen⟩:∃ en,en=nes.length:=⟨_,rfl⟩
  obtain ⟨tn,htn⟩:∃ tn,tn=nto.length:=⟨_,rfl⟩
  rw [← hen] at he
  rw [← htn] at ht
  simp only [← hen, ← htn]
  refine yield_deep (m:=12) m (yield_on (a₁:={ tmps := #[.func (.yield L) #[] #[], .pointer (some ⟨bb,0,none⟩), .pointer (some ⟨rb,0,none⟩), .pointer (some ⟨sb,0,none⟩), .pointer (some ⟨W.heap.size,0,none⟩), .pointer (some ⟨W2.heap.size,0,none⟩), .int .i64 0,undef,undef,ptr tb, .int .i64 root, .agg #[fv,tv], .func (.func 144) #[] #[.pointer (some ⟨W.heap.size+2,0,none⟩), .pointer (some ⟨W.heap.size+1,0,none⟩), .pointer (some ⟨W.heap.size+3,0,none⟩)],ndv npg (nl:Int) (.slice ea en ec) (.slice ta tn tc), .int .i64 0,undef,undef,undef,undef,undef,undef,undef,undef,undef,undef,undef,undef,undef,undef,undef,undef,undef,undef,undef,undef,undef,undef,undef,undef],defers:=[] }) (W1:=W2.alloc (.cells #[.int .i64 npg, .int .i64 (nl:Int), .slice ea en ec, .slice ta tn tc] 179)) hrec hP.ll rfl ?assign ?hl1 ?body)
  case assign =>
   clear hJ hR hM hJ1 hP1 hP he ht hents hacc hfew hnC hnF hwW hbase bw1 bwW C3 CY B1 B2 B3 hb4 hb0 hW1 hz hz1 hen htn
   intro K hK
   gi_wp2
   exact hK
  case hl1=>exact (Below.heap_alloc _ _ _ (Array.getElem?_eq_some_iff.1 hP.ll).1).trans hP.ll
  case body =>
   have hba:Below W2.heap.size W2 (W2.alloc (.cells #[.int .i64 npg, .int .i64 (nl:Int), .slice ea en ec, .slice ta tn tc] 179)):=(Below.refl _ _).alloc (Nat.le_refl _) _
   have hPa:=hP.below H hba
   have CN:=Cel.new W2 #[.int .i64 npg, .int .i64 (nl:Int), .slice ea en ec, .slice ta tn tc] 179
   obtain ⟨hPb,hstb⟩:=hPa.turn (r':=rec .busy none) H
   have hLlt:=(Array.getElem?_eq_some_iff.1 hP.ll).1
   have CB:=CN.kept (w':=(W2.alloc (.cells #[.int .i64 npg, .int .i64 (nl:Int), .slice ea en ec, .slice ta tn tc] 179)).putObj (W.heap.size+5) (.loop (rec .busy none))) (World.putObj_heap_other (by omega))
   have hst0:Step C2 W2 ((W2.alloc (.cells #[.int .i64 npg, .int .i64 (nl:Int), .slice ea en ec, .slice ta tn tc] 179)).putObj (W.heap.size+5) (.loop (rec .busy none))) C2:=(Step.of_below hba C2).trans hstb
   generalize (W2.alloc (.cells #[.int .i64 npg, .int .i64 (nl:Int), .slice ea en ec, .slice ta tn tc] 179)).putObj (W.heap.size+5) (.loop (rec .busy none))=Wb at *
   have hstF:Step F2 W2 Wb F2:=⟨hst0.only.mono fun q _ hq=>((hP.cc q).1 hq).elim (fun h=>(H.base hP.hj).2.1 q h) fun e=>e.elim (fun e=>e ▸ hP.fl) fun e=>e ▸ hP.fd,fun _ h=>.inl h⟩
   have hheb:=he.step (Su.step hstF S)
   have hbb:=H.base hPb.hj
   have NP:=npairs_any (p:=npg) (lvl:=nl) (tv:=.slice ta tn tc) Wb hheb (by omega) (fun q hq=>hq.elim (fun h=>Nat.lt_of_lt_of_le (hT.lt q h) hbb.1.size) fun h=>(hbb.2.2 q h).2)
   have NPc:CallsIn (Fence.wide.inRound (W.heap.size+5)) (12-1) Tryz.prog 149 _ Wb _:=CallsIn.inRound _ ((callsIn_wide (n:=12-1)).2 NP)
   have h11:1≤12-1:=by decide
   have x0:=CB.cell 0
   have x1:=CB.cell 1
   have x2:=CB.cell 2
   have x3:=CB.cell 3
   have HP:=Lib.hid (anZ hPb (anZ hst0 (anZ hents (anZ hacc (anZ hfew hen)))))
   have HX:=Lib.hid (anZ hrec (anZ hf hs))
   clear hJ hR hM hJ1 hP1 hP he ht hents hacc hfew hnC hnF hwW hbase bw1 bwW C3 CY B1 B2 B3 hb4 hb0 hW1 hz hz1 hba hPa CN hPb hstb hLlt CB hst0 hstF hheb hbb NP hen htn hrec hf hs HC HT
   gi_wp2_with fail
   refine ⟨trivial,NPc.mono ?_⟩
   rintro e w3 ⟨v,rfl,hv,hb3⟩
   clear NPc x0 x1 x2 x3
   obtain ⟨hPb,hst0,hents,hacc,hfew,hen⟩:=HP.out
   obtain ⟨lv,hlv⟩:∃ lv,lv=(nodePrs nl nes).length:=⟨_,rfl⟩
   obtain ⟨va,vc,rfl,_⟩:=hv.shape
   have hP3:=hPb.below H hb3
   have hst3:=hst0.trans (Step.of_below hb3 C2)
   have hlen:=nodePrs_len nl nes
   have hlf:lv≤503:=by omega
   have H3:=Lib.hid (anZ hP3 (anZ hst3 hv))
   rw [← hlv]
   have HL:=Lib.hid hlv
   clear hPb hst0 hents hacc hfew hen hv hb3 hP3 hst3 hlen hlv
   gi_wp2
   gi_loopw [24] (fun i wr=>∃ (j:Nat) (C' C2' F':Nat→Prop),j≤lv∧i = .int .i64 j∧PJ J f t fv tv (.func (.yield L) #[] #[]) (W.heap.size+5) W.heap.size sb (W.heap.size+4) (rec .busy none) (inSpan f t (ndPrs acc++(nodePrs nl nes).take j)) wr C' C2' F'∧Step C2 W2 wr C2'∧(∀ q,F2 q→F' q)∧(∀ q,F' q→F2 q∨W2.heap.size≤q)∧Rd kdPr wr (Su S F') (.slice va lv vc) (nodePrs nl nes)) (fun i _=>lv-(intOf i).toNat)
   case atStart =>
    refine ⟨0,C',C2,F2,Nat.zero_le _,rfl,?_,H3.out.2.1,fun _ h=>h,fun _ h=>.inl h,?_⟩
    ·rw [List.take_zero,List.append_nil]
     exact H3.out.1
    ·rw [HL.out]
     exact H3.out.2.2
   case round =>
    obtain ⟨j,C3,C4,F3,hj,rfl,hPr,hst,hf1,hf2,hvr⟩:=hrel
    by_cases hlt:j < lv
    ·obtain ⟨p,hp⟩:∃ p,(nodePrs nl nes)[j]? = some p:=⟨_,List.getElem?_eq_getElem (by rw [← HL.out]; exact hlt)⟩
     obtain ⟨g,o,cap,ka,kc,wa,wc,e0,hg,k0,k1,bk,bv⟩:=hvr.par hp
     simp only [Value.slice.injEq] at e0
     obtain ⟨rfl, -,rfl⟩:=e0
     have hil:(j:Int) < (lv:Int):=by omega
     have hb1:Below wr.heap.size wr (wr.alloc (.cells #[.slice ka p.1.length kc, .slice wa p.2.length wc] 68)):=(Below.refl _ _).alloc (Nat.le_refl _) _
     have CP:=Cel.new wr #[.slice ka p.1.length kc, .slice wa p.2.length wc] 68
     obtain ⟨hrec,hf,hs⟩:=HX.out
     have hP1:=hPr.below H hb1
     have bk1:=bk.step (Step.of_below hb1 _)
     have bv1:=bv.step (Step.of_below hb1 _)
     have HA:=CallsIn.inRound (W.heap.size+5) ((callsIn_wide (n:=12-1)).2 (has_any (wr.alloc (.cells #[.slice ka p.1.length kc, .slice wa p.2.length wc] 68)) (H.bytes hP1.hj hf).1 (H.bytes hP1.hj hs).1 bk1.1))
     have q0:=hP1.cs.cell 0
     have q1:=hP1.cs.cell 1
     have hmore:=inSpan_more (f:=f) (t:=t) (a:=ndPrs acc) hp
     have HR:=Lib.hid (anZ hP1 (anZ (hst.bel hb1) (anZ hf1 (anZ hf2 (anZ (hvr.step (Step.of_below hb1 _)) (anZ bk1 (anZ bv1 (anZ CP (anZ hb1 hp)))))))))
     by_cases hh:hasB p.1 f t=true
     ·rw [hh] at HA
      rw [if_pos hh] at hmore
      have HM:=Lib.hid hmore
      clear hPr hst hf1 hf2 hvr hp bk bv hb1 CP hrec hf hs hP1 bk1 bv1 hmore hh hg
      gi_wp2_with fail
      refine ⟨trivial,HA.mono ?_⟩
      rintro e w5 ⟨rfl,hb5⟩
      clear HA q0 q1 k0 k1
      obtain ⟨hP1,hst,hf1,hf2,hvr,bk1,bv1,CP,hb1,hp⟩:=HR.out
      have hP5:=hP1.below H hb5
      have CP5:=CP.below hb5 CP.lt
      have y0:=hP5.cy.cell 0
      have p0:=CP5.cell 0
      have p1:=CP5.cell 1
      have st5:=Step.of_below hb5 F3
      have hlim:(inSpan f t (ndPrs acc++(nodePrs nl nes).take j)).length < M*503:=by
       obtain ⟨_,_,hents,hacc,hfew,hen⟩:=HP.out
       have h1:=inSpan_len f t (ndPrs acc++(nodePrs nl nes).take j)
       have h2:=ndPrs_len hents
       have h3:((nodePrs nl nes).take j).length≤j:=by rw [List.length_take]; omega
       have h4:=Nat.mul_le_mul_right 503 (Nat.succ_le_of_lt hacc)
       rw [List.length_append] at h1
       rw [Nat.succ_mul] at h4
       omega
      obtain ⟨fn5,tmps5,assign5,body5,hy,hR⟩:=hY (12-1) _ p ka kc wa wc w5 C3 F3 hP5.hj (bk1.step (Su.step st5 S)) (bv1.step (Su.step st5 S)) hlim
      have H5:=Lib.hid (anZ hP5 (anZ (hst.bel hb5) (anZ hf1 (anZ hf2 (anZ (hvr.step (Step.of_below hb5 _)) (hb1.trans (hb5.mono hb1.size)))))))
      clear hP1 hst hf1 hf2 hvr bk1 bv1 CP hb1 hp hb5 CP5 hP5 st5 hlim
      gi_wp2_with fail
      refine hR.mono ?_
      rintro e w7 ⟨rfl,C7,F7,st7,J7,f7,g7⟩
      clear y0 p0 p1 hR hy
      obtain ⟨hP5,hst,hf1,hf2,hvr,hb5⟩:=H5.out
      obtain ⟨hP7,stt⟩:=hP5.took H st7 J7 f7 g7
      have st7F:=taken_step st7 (H.base hP5.hj).2.1 g7
      have hw5:W2.heap.size≤w5.heap.size:=hst.size
      rw [← HM.out] at hP7
      have H7:=Lib.hid (anZ hP7 (anZ (hst.trans stt) (anZ (fun q hq=>f7 q (hf1 q hq)) (anZ (fun q hq=>(g7 q hq).elim (hf2 q) fun h=>.inr (by omega)) (hvr.step (Su.step st7F S))))))
      clear hP5 hst hf1 hf2 hvr hb5 hP7 stt st7F st7 J7 f7 g7 hw5
      gi_wp2
      go_roundw
      case rel=>exact ⟨j+1,C7,_,F7,by omega,by go_num,H7.out.1,H7.out.2.1,H7.out.2.2.1,H7.out.2.2.2.1,H7.out.2.2.2.2⟩
      case measure=>simp [intOf]; omega
     ·have hf0:hasB p.1 f t=false:=by simpa using hh
      rw [hf0] at HA
      rw [if_neg hh,List.append_nil] at hmore
      have HM:=Lib.hid hmore
      clear hPr hst hf1 hf2 hvr hp bk bv hb1 CP hrec hf hs hP1 bk1 bv1 hmore hh hg hf0
      gi_wp2_with fail
      refine ⟨trivial,HA.mono ?_⟩
      rintro e w5 ⟨rfl,hb5⟩
      clear HA q0 q1 k0 k1
      obtain ⟨hP1,hst,hf1,hf2,hvr,bk1,bv1,CP,hb1,hp⟩:=HR.out
      have hP5:=hP1.below H hb5
      rw [← HM.out] at hP5
      have H7:=Lib.hid (anZ hP5 (anZ (hst.bel hb5) (anZ hf1 (anZ hf2 (hvr.step (Step.of_below hb5 _))))))
      clear hP1 hst hf1 hf2 hvr bk1 bv1 CP hb1 hp hb5 hP5
      gi_wp2
      refine ⟨fun _ h=>(by cases h),?_⟩
      gi_wp2
      go_roundw
      case rel=>exact ⟨j+1,C3,_,F3,by omega,by go_num,H7.out.1,H7.out.2.1,H7.out.2.2.1,H7.out.2.2.2.1,H7.out.2.2.2.2⟩
      case measure=>simp [intOf]; omega
    ·obtain rfl:j=lv:=by omega
     have hil:¬ (j:Int) < (j:Int):=by omega
     rw [List.take_of_length_le (by rw [HL.out]; exact Nat.le_refl _)] at hPr
     obtain ⟨hPe,hste⟩:=hPr.turn (r':=rec .ready none) H
     have hen:=HP.out.2.2.1
     have HE:=Lib.hid (anZ hPr (anZ hPe (anZ (hst.trans hste) (anZ hf1 (anZ hf2 hen)))))
     have hfw:=HP.out.2.2.2.2
     have HF:=Lib.hid hfw
     clear hPr hst hf1 hf2 hvr hPe hste hen hfw
     gi_wp2
     obtain ⟨hPr,hPe,hst,hf1,hf2,hents⟩:=HE.out
     refine ⟨hPr.ll,C4,hst,F3,⟨fun n hn=>?_,C3,?_⟩,hf1,hf2⟩
     ·rcases hn with h1 | h1
      ·exact hents n h1
      ·rw [h1]
       exact HF.out.1
     ·rw [ndPrs_snoc]
      exact hPe
 refine ((callsIn_wide (n:=12-1)).2 (nodes1_any (PJ.holds H (by omega)) hT ho hf hs hTk hR ⟨(fun _ h=>absurd h List.not_mem_nil),C,hP1⟩ ((B2.below bw1 B2.lt).cell 0) ((B1.below bw1 B1.lt).cell 0) ((B3.below bw1 B3.lt).cell 0) ((B3.below bw1 B3.lt).cell 1) (by simpa using hM))).mono ?_
 rintro e W2 ⟨⟨r,rfl⟩,C8,F8,ns,st8,⟨hents8,C9,hP8⟩,hw8⟩
 rw [List.nil_append] at hP8
 rw [hw8.pr] at hP8
 refine ⟨⟨_,rfl⟩,hP8.ll,?_⟩
 obtain ⟨hPe,hste⟩:=hP8.turn (r':=rec .exhausted none) H
 have hL8:=(Array.getElem?_eq_some_iff.1 hPe.dd).1
 have stW:Step F W W1 (fun q=>F q∨q=W.heap.size+5∨q=W.heap.size+4):=⟨Only.of_below bwW F,fun q hq=>hq.imp id fun h=>by omega⟩
 have hall:Step F W (W2.putObj (W.heap.size+5) (.loop (rec .exhausted none))) F8:=(stW.trans st8).trans ⟨hste.only.mono fun q _ hq=>((PJ.holds (f:=f) (t:=t) (fv:=fv) (tv:=tv) (yv:=.func (.yield L) #[] #[]) (L:=W.heap.size+5) (yb:=W.heap.size) (sb:=sb) (db:=W.heap.size+4) (r:=rec .ready none) H (by omega)).base (l:=ns) ⟨hents8,C9,by rw [hw8.pr]; exact hP8⟩).2.1 q hq,fun _ h=>.inl h⟩
 have HE:=Lib.hid (anZ hPe hall)
 have hdd:=hPe.dd
 clear hJ hR hM hJ1 hP1 hTk hnC hnF hwW hbase bw1 bwW C3 CY B1 B2 B3 hb4 hb0 hW1 hz hz1 hPe hste hall hP8 st8 hw8 hents8 stW hrec hT hf hs
 simp only [Nat.add_assoc,Nat.reduceAdd]
 generalize W2.putObj (W.heap.size+5) (.loop (rec .exhausted none))=We at *
 go_wp2
 refine ⟨by simp, .inl ⟨_,_,rfl,run_takeDeferred hdd,?_⟩⟩
 obtain ⟨hPe,hall⟩:=HE.out
 have hk:∀ q,q≠W.heap.size+4→(We.putObj (W.heap.size+4) (.deferred none)).heap[q]? = We.heap[q]?:=fun q hq=>World.putObj_heap_other hq
 have hz:We.heap.size≤(We.putObj (W.heap.size+4) (.deferred none)).heap.size:=by simp [World.putObj]
 have st:Step F8 We (We.putObj (W.heap.size+4) (.deferred none)) F8:=⟨⟨rfl,rfl,rfl,hz,fun q _ hq=>hk q fun e=>hq (e ▸ hPe.fd)⟩,fun _ h=>.inl h⟩
 exact ⟨_,results_none rfl _ _ _,⟨_,rfl⟩,C9,F8,hall.trans st,H.stay hPe.hj st (fun q hq=>hk q fun e=>hPe.cd (e ▸ hq)) (fun _ h=>h) fun q hq=>Nat.lt_of_lt_of_le ((H.base hPe.hj).2.2 q hq).2 hz⟩
end
end Go.Proofs.YtgkofgifoiinkaaGreat
namespace Go.Proofs.YtgkofgifoiinkaaGreat
open Go.RowKit
theorem round_append_run {F:Fence} {n:Nat} {P:Program} {w w':World} {ops:Array Oper} {rest:List Oper} {o:Oper} {a:Act} {Q:Exit→Act→World→Prop} {v x v':Value} (hg:o.guard=none) (sl xl:Operand) (ty:TypeId) (hop:o.op = .call { callee:=.builtin .append,args := #[sl,xl],argTypes := #[ty,ty] })
  (hs:a.eval sl=v) (hx:a.eval xl=x) (hr:(Builtin.append_ #[ty,ty] o.type #[v,x]).run P w = .ok v' w') (h:wpListIn F n P ops Q rest (a.put o.dst v') w'):wpListIn F n P ops Q (o::rest) a w:=by
 refine wpListIn_plain hg fun K hK'=>?_
 unfold Oper.wpIn
 refine ⟨?_,?_⟩
 ·simp [Oper.about,hop,resolve,Target.leads,Sem.run_pure]
 ·rw [Oper.semAt_plain F _ _ (by rw [hop]; intro c hc'; cases hc')]
  simp [execOp,hop,resolve,invoke,builtin,hs,hx,hr,Result.andThen]
  exact hK' _ _ h
def Five (b q:Nat):Prop:=q=b∨q=b+1∨q=b+2∨q=b+6∨q=b+7
section
variable {τ α:Type}
structure Lst (K:Kd τ α) (te ts:TypeId) (w:World) (S:Nat→Prop) (b:Nat) (r:Loop) (pre:List α) (W:World) (C F:Nat→Prop) (lv:Value):Prop where
 cl:Cel W (b+2) [lv] ts
 ro:Ro K te W (Su S F) lv pre
 cc:∀ q,C q↔Five b q∨lv.ownBlock=some q
 cf:∀ q,C q→F q
 nl:∀ q,lv.ownBlock=some q→b+8≤q
 ll:W.heap[b+7]? = some (.loop r)
 dd:W.heap[b+6]? = some (.deferred (some []))
 c1:Cel W b [.slice none 0 0] ts
 c2:Cel W (b+1) [.int .i64 0] 28
 bw:Below w.heap.size w W
 fl:∀ q,F q→w.heap.size≤q∧q < W.heap.size
variable {K:Kd τ α} {te ts:TypeId} {w W W':World} {S:Nat→Prop} {b:Nat} {r r':Loop} {pre:List α} {C F F':Nat→Prop} {lv v':Value}
theorem Lst.five (h:Lst K te ts w S b r pre W C F lv) {q:Nat} (hq:Five b q):C q:=(h.cc q).2 (.inl hq)
theorem Lst.lt (h:Lst K te ts w S b r pre W C F lv) {q:Nat} (hq:Five b q):q < W.heap.size:=(h.fl q (h.cf q (h.five hq))).2
theorem Lst.eight (h:Lst K te ts w S b r pre W C F lv):b+8≤W.heap.size:=by
 have:=(Array.getElem?_eq_some_iff.1 h.ll).1
 omega
theorem Lst.stay (h:Lst K te ts w S b r pre W C F lv) (hst:Step F W W' F') (hc:∀ q,C q→W'.heap[q]? = W.heap[q]?) (hf:∀ q,F q→F' q) (hl:∀ q,F' q→q < W'.heap.size):Lst K te ts w S b r pre W' C F' lv:=by
 have h5:∀ q,Five b q→W'.heap[q]? = W.heap[q]?:=fun q hq=>hc q (h.five hq)
 exact { cl:=h.cl.kept (h5 _ (by unfold Five; omega)),ro:=h.ro.keep (fun g hg=>hc g ((h.cc g).2 (.inr hg))) (Su.step hst S) (fun q hq=>hq.imp id (hf q)),cc:=h.cc,cf:=fun q hq=>hf q (h.cf q hq),nl:=h.nl
         ll:=(h5 _ (by unfold Five; omega)).trans h.ll,dd:=(h5 _ (by unfold Five; omega)).trans h.dd
         c1:=h.c1.kept (h5 _ (by unfold Five; omega)),c2:=h.c2.kept (h5 _ (by unfold Five; omega))
         bw:=h.bw.trans (hst.only.below h.bw.size fun q hq=>(h.fl q hq).1),fl:=fun q hq=>⟨(hst.more q hq).elim (fun h1=>(h.fl q h1).1) fun h1=>Nat.le_trans h.bw.size h1,hl q hq⟩ }
theorem Lst.holds:HoldsT w (fun (pre:List α) W C F=>∃ lv,Lst K te ts w S b r pre W C F lv) :=
 ⟨fun ⟨_,h⟩=>⟨h.bw,h.cf,h.fl⟩,fun ⟨lv,h⟩ hst hc hf hl=>⟨lv,h.stay hst hc hf hl⟩⟩
theorem Lst.below (h:Lst K te ts w S b r pre W C F lv) (hb:Below W.heap.size W W'):Lst K te ts w S b r pre W' C F lv :=
 h.stay (Step.of_below hb F) (fun q hq=>hb.block q (h.fl q (h.cf q hq)).2) (fun _ h=>h) fun q hq=>Nat.lt_of_lt_of_le (h.fl q hq).2 hb.size
theorem put_step {W:World} {L:Nat} {o:Obj} {C:Nat→Prop} (hC:C L):Step C W (W.putObj L o) C :=
 ⟨⟨rfl,rfl,rfl,by simp [World.putObj],fun q _ hq=>World.putObj_heap_other fun e=>hq (e ▸ hC)⟩,fun _ h=>.inl h⟩
theorem Lst.turn (h:Lst K te ts w S b r pre W C F lv) (r':Loop):Lst K te ts w S b r' pre (W.putObj (b+7) (.loop r')) C F lv∧Step C W (W.putObj (b+7) (.loop r')) C:=by
 have hlt:=(Array.getElem?_eq_some_iff.1 h.ll).1
 have hCL:C (b+7):=h.five (by unfold Five; omega)
 have hk:∀ q,q≠b+7→(W.putObj (b+7) (.loop r')).heap[q]? = W.heap[q]?:=fun q hq=>World.putObj_heap_other hq
 have st:Step F W (W.putObj (b+7) (.loop r')) F:=put_step (h.cf _ hCL)
 refine ⟨{ cl:=h.cl.kept (hk _ (by omega)),ro:=h.ro.keep (fun g hg=>hk g (by have:=h.nl g hg; omega)) (Su.step st S) (fun _ h=>h),cc:=h.cc,cf:=h.cf,nl:=h.nl
           ll:=World.putObj_heap_same hlt,dd:=(hk _ (by omega)).trans h.dd
           c1:=h.c1.kept (hk _ (by omega)),c2:=h.c2.kept (hk _ (by omega))
           bw:=h.bw.trans (st.only.below h.bw.size fun q hq=>(h.fl q hq).1),fl:=fun q hq=>⟨(h.fl q hq).1,Nat.lt_of_lt_of_le (h.fl q hq).2 st.size⟩ },put_step hCL⟩
theorem Lst.done (hS:∀ q,S q→q < w.heap.size) (h:Lst K te ts w S b r pre W C F lv) :
  Below w.heap.size w (((W.setCell ⟨b,0,none⟩ lv).setCell ⟨b+1,0,none⟩ (.int .i64 0)).putObj (b+6) (.deferred none))∧Rd K (((W.setCell ⟨b,0,none⟩ lv).setCell ⟨b+1,0,none⟩ (.int .i64 0)).putObj (b+6) (.deferred none)) S lv pre ∧
  Cel (((W.setCell ⟨b,0,none⟩ lv).setCell ⟨b+1,0,none⟩ (.int .i64 0)).putObj (b+6) (.deferred none)) b [lv] ts∧Cel (((W.setCell ⟨b,0,none⟩ lv).setCell ⟨b+1,0,none⟩ (.int .i64 0)).putObj (b+6) (.deferred none)) (b+1) [.int .i64 0] 28 ∧
  ((W.setCell ⟨b,0,none⟩ lv).setCell ⟨b+1,0,none⟩ (.int .i64 0)).heap[b+6]? = some (.deferred (some [])):=by
 have f0:F b:=h.cf _ (h.five (by unfold Five; omega))
 have f1:F (b+1):=h.cf _ (h.five (by unfold Five; omega))
 have f6:F (b+6):=h.cf _ (h.five (by unfold Five; omega))
 have st:Step F W (((W.setCell ⟨b,0,none⟩ lv).setCell ⟨b+1,0,none⟩ (.int .i64 0)).putObj (b+6) (.deferred none)) F:=(((Step.refl F W).set (p:=⟨b,0,none⟩) f0 lv).set (p:=⟨b+1,0,none⟩) f1 (.int .i64 0)).trans (put_step f6)
 have hk:∀ q,q≠b→q≠b+1→((W.setCell ⟨b,0,none⟩ lv).setCell ⟨b+1,0,none⟩ (.int .i64 0)).heap[q]? = W.heap[q]?:=fun q h1 h2=>(Below.heap_setCell _ ⟨b+1,0,none⟩ _ _ h2).trans (Below.heap_setCell _ ⟨b,0,none⟩ _ _ h1)
 have hp:∀ q,q≠b+6→(((W.setCell ⟨b,0,none⟩ lv).setCell ⟨b+1,0,none⟩ (.int .i64 0)).putObj (b+6) (.deferred none)).heap[q]? = ((W.setCell ⟨b,0,none⟩ lv).setCell ⟨b+1,0,none⟩ (.int .i64 0)).heap[q]?:=fun q hq=>World.putObj_heap_other hq
 refine ⟨h.bw.trans (st.only.below h.bw.size fun q hq=>(h.fl q hq).1),?_,?_,?_,(hk _ (by omega) (by omega)).trans h.dd⟩
 ·have hr:=h.ro.keep (fun g hg=>by have:=h.nl g hg; exact (hp g (by omega)).trans (hk g (by omega) (by omega))) (Su.step st S) (fun _ h=>h)
  exact hr.rd (fun q hq=>.inl hq) fun q hq hs=>by
   have h1:=(h.fl q (h.cf q ((h.cc q).2 (.inr hq)))).1
   have h2:=hS q hs
   omega
 ·exact ((h.c1.set 0 lv).kept (Below.heap_setCell _ ⟨b+1,0,none⟩ _ _ (by simp))).kept (hp _ (by omega))
 ·exact ((h.c2.kept (Below.heap_setCell _ ⟨b,0,none⟩ _ _ (by simp))).set 0 (.int .i64 0)).kept (hp _ (by omega))
theorem Lst.same {W6:World} {pre':List α} (h:Lst K te ts w S b r pre W C F lv) (hg:W.grownBy W6 lv.ownBlock) (hr:Ro K te W6 (Su S F) lv pre'):Lst K te ts w S b r pre' W6 C F lv:=by
 have h8:=h.eight
 have hk:∀ q,q < b+8→W6.heap[q]? = W.heap[q]?:=fun q hq=>hg.block q (by omega) fun e=>by have:=h.nl q e.symm; omega
 have st:Step F W W6 F:=⟨⟨hg.os,hg.tape,hg.output,hg.size,fun q hq hn=>hg.block q hq fun e=>hn (h.cf q ((h.cc q).2 (.inr e.symm)))⟩,fun _ h=>.inl h⟩
 exact { cl:=h.cl.kept (hk _ (by omega)),ro:=hr,cc:=h.cc,cf:=h.cf,nl:=h.nl,ll:=(hk _ (by omega)).trans h.ll,dd:=(hk _ (by omega)).trans h.dd
         c1:=h.c1.kept (hk _ (by omega)),c2:=h.c2.kept (hk _ (by omega)),bw:=h.bw.trans (st.only.below h.bw.size fun q hq=>(h.fl q hq).1),fl:=fun q hq=>⟨(h.fl q hq).1,Nat.lt_of_lt_of_le (h.fl q hq).2 st.size⟩ }
theorem Lst.put {W6:World} {a:α} (h:Lst K te ts w S b r pre W C F lv) (hg:W.grownBy W6 lv.ownBlock) (hl:v'.ownBlock=lv.ownBlock∨v'.ownBlock=some W.heap.size) (hr:Ro K te W6 (Sv (Su S F) v') v' (pre++[a])) :
  Lst K te ts w S b r (pre++[a]) (W6.setCell ⟨b+2,0,none⟩ v') (fun q=>Five b q∨v'.ownBlock=some q) (fun q=>F q∨v'.ownBlock=some q) v' ∧
  Step C W (W6.setCell ⟨b+2,0,none⟩ v') (fun q=>Five b q∨v'.ownBlock=some q)∧Cel W6 (b+2) [lv] ts∧(∀ q,F q∨v'.ownBlock=some q→F q∨W.heap.size≤q):=by
 have hClb:C (b+2):=h.five (by unfold Five; omega)
 have h8:=h.eight
 have hown:∀ q,lv.ownBlock=some q→C q:=fun q hq=>(h.cc q).2 (.inr hq)
 have hvx:∀ q,v'.ownBlock=some q→lv.ownBlock=some q∨W.heap.size≤q:=fun q hq=>by
  rcases hl with e | e
  ·exact .inl (e ▸ hq)
  ·rw [e] at hq
   cases hq
   exact .inr (Nat.le_refl _)
 have s6:Step C W (W6.setCell ⟨b+2,0,none⟩ v') (Sv C v'):=(step_own hg hown hl).set (p:=⟨b+2,0,none⟩) (.inl hClb) v'
 have hst:Step C W (W6.setCell ⟨b+2,0,none⟩ v') (fun q=>Five b q∨v'.ownBlock=some q):=s6.weak fun q hq=>hq.imp (fun hq=>h.five hq) id
 have hm:∀ q,F q∨v'.ownBlock=some q→F q∨W.heap.size≤q:=fun q hq=>hq.elim .inl fun hq=>(hvx q hq).imp (fun hq=>h.cf q (hown q hq)) id
 have hstF:Step F W (W6.setCell ⟨b+2,0,none⟩ v') (fun q=>F q∨v'.ownBlock=some q):=⟨s6.only.mono fun q _ hq=>h.cf q hq,hm⟩
 have hnl:∀ q,v'.ownBlock=some q→b+8≤q:=fun q hq=>(hvx q hq).elim (h.nl q) fun h1=>by omega
 have hsame:∀ q,q < b+8→q≠b+2→(W6.setCell ⟨b+2,0,none⟩ v').heap[q]? = W.heap[q]?:=fun q h1 h3=>(Below.heap_setCell _ ⟨b+2,0,none⟩ _ _ h3).trans (hg.block q (by omega) fun e=>by have:=h.nl q e.symm; omega)
 have eS:Sv (Su S F) v'=Su S (fun q=>F q∨v'.ownBlock=some q):=by
  funext q
  unfold Sv Su
  exact propext or_assoc
 have hc6:Cel W6 (b+2) [lv] ts:=h.cl.kept (hg.block _ (by omega) fun e=>by have:=h.nl _ e.symm; omega)
 refine ⟨{ cl:=hc6.set 0 v',ro:=?_,cc:=fun _=>Iff.rfl,cf:=fun q hq=>hq.imp (fun hq=>h.cf q (h.five hq)) id,nl:=hnl
           ll:=(hsame _ (by omega) (by omega)).trans h.ll,dd:=(hsame _ (by omega) (by omega)).trans h.dd
           c1:=h.c1.kept (hsame _ (by omega) (by omega)),c2:=h.c2.kept (hsame _ (by omega) (by omega))
           bw:=h.bw.trans (hstF.only.below h.bw.size fun q hq=>(h.fl q hq).1),fl:=fun q hq=>?_ },hst,hc6,hm⟩
 ·rw [← eS]
  exact hr.keep (fun g hg'=>Below.heap_setCell _ ⟨b+2,0,none⟩ _ _ (by have:=hnl g hg'; show g≠b+2; omega)) ((Step.refl _ W6).set (p:=⟨b+2,0,none⟩) (.inl (.inr (h.cf _ hClb))) v') (fun _ h=>h)
 ·have h6:W6.heap.size≤(W6.setCell ⟨b+2,0,none⟩ v').heap.size:=((Step.refl (fun q=>q=b+2) W6).set (p:=⟨b+2,0,none⟩) rfl v').size
  rcases hq with hq | hq
  ·exact ⟨(h.fl q hq).1,Nat.lt_of_lt_of_le (h.fl q hq).2 hst.size⟩
  ·exact ⟨(hvx q hq).elim (fun h1=>(h.fl q (h.cf q (hown q h1))).1) fun h1=>Nat.le_trans h.bw.size h1,Nat.lt_of_lt_of_le (hr.own hq) h6⟩
end
end Go.Proofs.YtgkofgifoiinkaaGreat
