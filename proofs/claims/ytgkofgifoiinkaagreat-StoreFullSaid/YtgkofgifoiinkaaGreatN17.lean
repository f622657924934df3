/- Which pairs of a node stand in a span: a child that the span does not meet has none of them; condition: the pairs' keys rise and stand under the node's end. -/
import Derived.Test.YtgkofgifoiinkaaGreatN14
import Derived.Test.YtgkofgifoiinkaaGreatN13
import Derived.Test.YtgkofgifoiinkaaGreatN16
import Derived.Test.YtgkofgifoiinkaaGreatN03
import Derived.Test.YtgkofgifoiinkaaGreatN12
namespace Go.Proofs.YtgkofgifoiinkaaGreat
open Go.RowKit
def ovr (B:Nat→Bytes):List (Nat × Bytes)→Nat→Bytes
 | [],k=>B k
 | (t,b)::r,k=>ovr (fun q=>if q=t then b else B q) r k
theorem ovr_append (l m:List (Nat × Bytes)):∀ B:Nat→Bytes,ovr B (l++m)=ovr (ovr B l) m:=by
 induction l with
 | nil=>intro B; rfl
 | cons a r ih =>
  intro B
  obtain ⟨t,b⟩:=a
  funext k
  show ovr (fun q=>if q=t then b else B q) (r++m) k=_
  rw [ih]
  rfl
theorem ovr_out {l:List (Nat × Bytes)} {k:Nat}:∀ {B:Nat→Bytes},k ∉ l.map Prod.fst→ovr B l k=B k:=by
 induction l with
 | nil=>intro B _; rfl
 | cons a r ih =>
  intro B h
  obtain ⟨t,b⟩:=a
  simp only [List.map_cons,List.mem_cons,not_or] at h
  show ovr (fun q=>if q=t then b else B q) r k=_
  rw [ih h.2,if_neg h.1]
theorem ovr_in {l:List (Nat × Bytes)} {k:Nat} {b:Bytes}:∀ {B:Nat→Bytes},(l.map Prod.fst).Nodup→(k,b)∈l→ovr B l k=b:=by
 induction l with
 | nil=>intro B _ h; cases h
 | cons a r ih =>
  intro B hn h
  obtain ⟨t,c⟩:=a
  simp only [List.map_cons,List.nodup_cons] at hn
  show ovr (fun q=>if q=t then c else B q) r k=_
  rcases List.mem_cons.1 h with e | h
  ·cases e
   rw [ovr_out hn.1,if_pos rfl]
  ·exact ih hn.2 h
theorem zip_fst {T:List Nat} {BL:List Bytes} (h:BL.length=T.length):(T.zip BL).map Prod.fst=T:=List.map_fst_zip (by omega)
theorem ovr_out' {T:List Nat} {BL:List Bytes} {B:Nat→Bytes} {k:Nat} (h:BL.length=T.length) (hk:k ∉ T):ovr B (T.zip BL) k=B k:=ovr_out (by rw [zip_fst h]; exact hk)
theorem ovr_at {T:List Nat} {BL:List Bytes} {B:Nat→Bytes} (h:BL.length=T.length) (hn:T.Nodup) {i t:Nat} {b:Bytes} (ht:T[i]? = some t) (hb:BL[i]? = some b):ovr B (T.zip BL) t=b:=by
 refine ovr_in (by rw [zip_fst h]; exact hn) ?_
 have:(T.zip BL)[i]? = some (t,b):=by rw [List.getElem?_zip_eq_some]; exact ⟨ht,hb⟩
 exact List.mem_of_getElem? this
theorem tdones_add (l:List Pg) (i:Nat):∀ j:Nat,tdones j (tdones i l)=tdones (i+j) l
 | 0=>rfl
 | j+1=>by
  show tdone (tdones j (tdones i l))=tdone (tdones (i+j) l)
  rw [tdones_add l i j]
theorem tooks_add (l:List Pg) (i j:Nat):tooks (tdones i l) j=tooks l (i+j):=by
 unfold tooks
 rw [tdones_add]
theorem placeT_add (l:List Pg) (i j:Nat):placeT l (i+j)=placeT l i++placeT (tdones i l) j:=by
 unfold placeT
 rw [List.range_add,List.map_append,List.map_map]
 congr 1
 refine List.map_congr_left fun x _=>?_
 show tooks l (i+x)=_
 rw [tooks_add]
theorem tdone_get (l:List Pg) (k:Nat):(tdone l)[k]? = if leastFree l≠none∧tpage l=(k:Int) then some (false,true) else l[k]?:=by
 unfold tdone tpage
 cases h:leastFree l with
 | none=>simp
 | some n =>
  obtain ⟨x,hx,_,_⟩:=least_some h
  have hn:=(List.getElem?_eq_some_iff.1 hx).1
  simp only [ne_eq,not_false_eq_true,true_and,reduceCtorEq]
  by_cases e:n=k
  ·subst e
   rw [if_pos rfl,List.getElem?_set_self hn]
  ·rw [List.getElem?_set_ne e,if_neg (by omega)]
theorem tdones_get (l:List Pg):∀ (j:Nat),(∀ m,m < j→leastFree (tdones m l)≠none)→∀ k:Nat,(tdones j l)[k]? = if k∈placeT l j then some (false,true) else l[k]?
 | 0,_,k=>by simp [placeT,tdones]
 | j+1,h,k=>by
  have h1:=h j (Nat.lt_succ_self _)
  have ih:=tdones_get l j (fun m hm=>h m (by omega)) k
  show (tdone (tdones j l))[k]? = _
  rw [tdone_get,placeT_succ,ih]
  have e:tpage (tdones j l)=(k:Int)↔k=tooks l j:=by
   unfold tooks
   have:0≤tpage (tdones j l):=by unfold tpage; split <;> omega
   omega
  by_cases hk:k=tooks l j
  ·rw [if_pos ⟨h1,e.2 hk⟩,if_pos (by simp [hk])]
  ·rw [if_neg (fun hh=>hk (e.1 hh.2))]
   by_cases hm:k∈placeT l j
   ·rw [if_pos hm,if_pos (by simp [hm])]
   ·rw [if_neg hm,if_neg (by simp [hm,hk])]
theorem tooks_free {l:List Pg} {j:Nat} (h:∀ m,m≤j→leastFree (tdones m l)≠none):l[tooks l j]? = some (false,false)∧tooks l j ∉ placeT l j:=by
 obtain ⟨n,hn⟩:=Option.ne_none_iff_exists'.1 (h j (Nat.le_refl _))
 obtain ⟨x,hx,h0,_⟩:=least_some hn
 have e:tooks l j=n:=by unfold tooks tpage; rw [hn]; exact Int.toNat_natCast n
 rw [tdones_get l j (fun m hm=>h m (by omega))] at hx
 rw [e]
 by_cases hm:n∈placeT l j
 ·rw [if_pos hm] at hx
  cases hx
  simp [pnum] at h0
 ·rw [if_neg hm] at hx
  rw [hx,pnum_free.1 h0]
  exact ⟨rfl,hm⟩
theorem placeT_free {l:List Pg}:∀ {j:Nat},(∀ m,m < j→leastFree (tdones m l)≠none)→(placeT l j).Nodup∧∀ t∈placeT l j,l[t]? = some (false,false)
 | 0,_=>by simp [placeT]
 | j+1,h=>by
  have ih:=placeT_free (j:=j) (fun m hm=>h m (by omega))
  have h1:=tooks_free (j:=j) (fun m hm=>h m (by omega))
  rw [placeT_succ]
  refine ⟨List.nodup_append.2 ⟨ih.1,by simp,fun a ha b hb=>?_⟩,fun t ht=>?_⟩
  ·rw [List.mem_singleton] at hb
   subst hb
   exact fun e=>h1.2 (e ▸ ha)
  ·rcases List.mem_append.1 ht with h2 | h2
   ·exact ih.2 t h2
   ·rw [List.mem_singleton] at h2
    rw [h2]
    exact h1.1
theorem placeT_lt {l:List Pg} {j:Nat} (h:∀ m,m < j→leastFree (tdones m l)≠none) {t:Nat} (ht:t∈placeT l j):t < l.length:=(List.getElem?_eq_some_iff.1 ((placeT_free h).2 t ht)).1
theorem free_tdone {l:List Pg} (h:leastFree l≠none):freeP (tdone l)+1=freeP l:=by
 obtain ⟨n,hn⟩:=Option.ne_none_iff_exists'.1 h
 obtain ⟨x,hx,h0,_⟩:=least_some hn
 obtain ⟨hl,e⟩:=List.getElem?_eq_some_iff.1 hx
 unfold tdone freeP
 rw [hn]
 have h1:l.set n (false,true)=l.take n++(false,true)::l.drop (n+1):=List.set_eq_take_append_cons_drop.trans (if_pos hl)
 have h2:l=l.take n++x::l.drop (n+1):=by rw [← e, ← List.drop_eq_getElem_cons hl,List.take_append_drop]
 simp only
 rw [h1]
 conv=>rhs; rw [h2]
 have hf:(pnum (false,true) == 0)=false:=rfl
 simp only [List.countP_append,List.countP_cons,h0,hf,beq_self_eq_true,if_true]
 simp
 omega
theorem free_tdones {l:List Pg}:∀ {j:Nat},(∀ m,m < j→leastFree (tdones m l)≠none)→freeP (tdones j l)+j=freeP l
 | 0,_=>rfl
 | j+1,h=>by
  have h1:=free_tdones (j:=j) (fun m hm=>h m (by omega))
  have h2:=free_tdone (h j (Nat.lt_succ_self _))
  show freeP (tdone (tdones j l))+(j+1)=_
  omega
theorem free_none {l:List Pg} (h:leastFree l=none):freeP l=0:=by
 unfold freeP
 rw [List.countP_eq_zero]
 intro x hx
 obtain ⟨j,hj⟩:=List.getElem?_of_mem hx
 simpa using least_none h j x hj
section
variable {B B':Nat→Bytes} {N l lvl:Nat} {es a b:List En} {prs:List Pr} {pgs:List Nat}
theorem Nb.nil (B:Nat→Bytes) (N:Nat):∀ l:Nat,Nb B N l [] [] []
 | 0=>Nb.zero.2 ⟨rfl,rfl⟩
 | l+1=>Nb.succ.2 ⟨[],rfl,rfl,rfl,fun _ h=>by cases h⟩
theorem Nb.split:∀ {l:Nat} {a b:List En} {prs:List Pr} {pgs:List Nat},Nb B N l (a++b) prs pgs→∃ p1 p2 g1 g2,prs=p1++p2∧pgs=g1++g2∧Nb B N l a p1 g1∧Nb B N l b p2 g2
 | 0,a,b,prs,pgs,h=>by
  obtain ⟨h1,rfl⟩:=Nb.zero.1 h
  obtain ⟨p1,p2,rfl,rfl,rfl⟩:=List.map_eq_append_iff.1 h1.symm
  exact ⟨p1,p2,[],[],rfl,rfl,Nb.zero.2 ⟨rfl,rfl⟩,Nb.zero.2 ⟨rfl,rfl⟩⟩
 | l+1,a,b,prs,pgs,h=>by
  obtain ⟨kids,h1,rfl,rfl,h4⟩:=Nb.succ.1 h
  obtain ⟨k1,k2,rfl,rfl,rfl⟩:=List.map_eq_append_iff.1 h1.symm
  exact ⟨_,_,_,_,List.flatMap_append,List.flatMap_append,Nb.succ.2 ⟨k1,rfl,rfl,rfl,fun k hk=>h4 k (List.mem_append_left _ hk)⟩,Nb.succ.2 ⟨k2,rfl,rfl,rfl,fun k hk=>h4 k (List.mem_append_right _ hk)⟩⟩
theorem Nb.append:∀ {l:Nat} {a b:List En} {p1 p2:List Pr} {g1 g2:List Nat},Nb B N l a p1 g1→Nb B N l b p2 g2→Nb B N l (a++b) (p1++p2) (g1++g2)
 | 0,a,b,p1,p2,g1,g2,h,k=>by
  obtain ⟨rfl,rfl⟩:=Nb.zero.1 h
  obtain ⟨rfl,rfl⟩:=Nb.zero.1 k
  exact Nb.zero.2 ⟨by simp,rfl⟩
 | l+1,a,b,p1,p2,g1,g2,h,k=>by
  obtain ⟨k1,rfl,rfl,rfl,h4⟩:=Nb.succ.1 h
  obtain ⟨k2,rfl,rfl,rfl,h5⟩:=Nb.succ.1 k
  refine Nb.succ.2 ⟨k1++k2,by simp,by simp,by simp,fun k hk=>?_⟩
  exact (List.mem_append.1 hk).elim (h4 k) (h5 k)
theorem Nb.rise:∀ {l:Nat} {es:List En} {prs:List Pr} {pgs:List Nat},Nb B N l es prs pgs→RiseP prs→RiseE es
 | 0,es,prs,pgs,h,hr=>by
  obtain ⟨rfl,_⟩:=Nb.zero.1 h
  exact List.pairwise_map.2 hr
 | l+1,es,prs,pgs,h,hr=>by
  obtain ⟨kids,rfl,rfl,h3,h4⟩:=Nb.succ.1 h
  clear h h3
  induction kids with
  | nil=>exact List.Pairwise.nil
  | cons k r ih =>
   rw [List.flatMap_cons] at hr
   obtain ⟨h5,h6,h7⟩:=RiseP.append.1 hr
   refine List.pairwise_cons.2 ⟨fun e he=>?_,ih h6 (fun q hq=>h4 q (List.mem_cons_of_mem _ hq))⟩
   obtain ⟨q,hq,rfl⟩:=List.mem_map.1 he
   obtain ⟨v1,r1,e1⟩:=(h4 k List.mem_cons_self).first
   obtain ⟨v2,r2,e2⟩:=(h4 q (List.mem_cons_of_mem _ hq)).first
   exact h7 (k.key,v1) (by rw [e1]; exact List.mem_cons_self) (q.key,v2) (List.mem_flatMap.2 ⟨q,hq,by rw [e2]; exact List.mem_cons_self⟩)
def PrOk (p:Pr):Prop:=(1≤p.1.length∧p.1.length≤32)∧p.2.length≤128
def EOk (N lvl:Nat) (e:En):Prop:=(1≤e.key.length∧e.key.length≤32)∧e.val.length≤128∧e.page < N∧EnOk lvl e
def maxE (lvl:Nat):Nat:=if lvl=0 then 164 else 38
theorem EOk.size {e:En} (h:EOk N lvl e):esize lvl e≤maxE lvl:=by
 obtain ⟨h1,h2,_⟩:=h
 unfold esize maxE
 split <;> omega
theorem EOk.few {es:List En} (h:∀ e∈es,EOk N lvl e):Few es:=fun e he=>⟨(h e he).2.2.2.1,(h e he).2.2.2.2.1⟩
theorem nsize_max {es:List En} (h:∀ e∈es,EOk N lvl e):nsize lvl es≤es.length*maxE lvl:=by
 induction es with
 | nil=>simp [nsize]
 | cons e r ih =>
  rw [nsize_cons,List.length_cons,Nat.succ_mul]
  have h1:=(h e List.mem_cons_self).size
  have h2:=ih fun x hx=>h x (List.mem_cons_of_mem _ hx)
  omega
theorem Nb.eok (hN:N≤4096) (hN0:0 < N) (h:Nb B N l es prs pgs) (hp:∀ p∈prs,PrOk p):∀ e∈es,EOk N l e:=by
 cases l with
 | zero =>
  obtain ⟨rfl,_⟩:=Nb.zero.1 h
  intro e he
  obtain ⟨p,hpp,rfl⟩:=List.mem_map.1 he
  obtain ⟨h1,h2⟩:=hp p hpp
  refine ⟨h1,h2,hN0,?_⟩
  unfold EnOk prE
  refine ⟨?_,?_,?_,fun _=>rfl,fun h=>absurd rfl h⟩
  ·show p.1.length≤_
   omega
  ·show p.2.length≤_
   omega
  ·exact Nat.zero_le _
 | succ l =>
  obtain ⟨kids,rfl,rfl,_,h4⟩:=Nb.succ.1 h
  intro e he
  obtain ⟨k,hk,rfl⟩:=List.mem_map.1 he
  obtain ⟨v,r,e1⟩:=(h4 k hk).first
  obtain ⟨ces,cpg,g1,g2,g3,g4,g5,g6⟩:=h4 k hk
  obtain ⟨h1,h2⟩:=hp (k.key,v) (List.mem_flatMap.2 ⟨k,hk,by rw [e1]; exact List.mem_cons_self⟩)
  refine ⟨h1,by simp [kidE],g6,?_⟩
  unfold EnOk kidE
  simp only at h1 ⊢
  exact ⟨by omega,by simp,by omega,fun h=>by omega,by simp⟩
theorem Nb.pages_lt:∀ {l:Nat} {es:List En} {prs:List Pr} {pgs:List Nat},Nb B N l es prs pgs→∀ q∈pgs,q < N
 | 0,es,prs,pgs,h=>by
  obtain ⟨_,rfl⟩:=Nb.zero.1 h
  intro q hq
  cases hq
 | l+1,es,prs,pgs,h=>by
  obtain ⟨kids,_,_,rfl,h4⟩:=Nb.succ.1 h
  intro q hq
  obtain ⟨k,hk,hqk⟩:=List.mem_flatMap.1 hq
  obtain ⟨ces,cpg,g1,g2,g3,g4,g5,g6⟩:=h4 k hk
  rw [g4] at hqk
  rcases List.mem_cons.1 hqk with rfl | h5
  ·exact g6
  ·exact Nb.pages_lt g3 q h5
end
theorem Halved.flat {lvl:Nat} {es:List En} {L:List (List En)} (h:Halved lvl es L):L.flatten=es∧L.length≤2∧(es≠[]→L≠[]):=by
 rcases h with ⟨rfl,rfl⟩ | ⟨h1,_,rfl⟩ | ⟨h1,k,_,_,rfl,_⟩
 ·exact ⟨rfl,by simp,fun h=>absurd rfl h⟩
 ·exact ⟨by simp,by simp,fun _ h=>by cases h⟩
 ·exact ⟨by simp,by simp,fun _ h=>by cases h⟩
theorem Halved.ok {N lvl:Nat} {es:List En} {L:List (List En)} (h:Halved lvl es L) (hr:RiseE es) (he:∀ e∈es,EOk N lvl e) (hs:nsize lvl es≤681) :
  (∀ x∈L,EsOk N lvl x)∧(L.length=2→∀ x∈L,NdOk N lvl x):=by
 rcases h with ⟨rfl,rfl⟩ | ⟨h1,h2,rfl⟩ | ⟨h1,k,hk0,hkl,rfl,hk2,hk3⟩
 ·exact ⟨fun x hx=>(by cases hx),fun h=>absurd h (by simp)⟩
 ·refine ⟨fun x hx=>?_,fun h=>absurd h (by simp)⟩
  rw [List.mem_singleton] at hx
  subst hx
  exact ⟨h1,h2,hr,he⟩
 ·have hM:maxE lvl≤164∧(0 < lvl→maxE lvl=38):=by
   unfold maxE
   split <;> omega
  obtain ⟨e0,he0⟩:∃ e0,es[k-1]? = some e0:=⟨_,List.getElem?_eq_getElem (by omega)⟩
  have ht:=nsize_take_succ lvl es (k-1) e0 he0
  rw [show k-1+1=k by omega] at ht
  have hE:=(he e0 (List.mem_of_getElem? he0)).size
  have hsum:=nsize_append lvl (es.take k) (es.drop k)
  rw [List.take_append_drop] at hsum
  have hd0:es.drop k≠[]:=fun e=>by
   rw [e,nsize_nil] at hsum
   omega
  have ht0:es.take k≠[]:=fun e=>by
   rw [e,nsize_nil] at hk2
   omega
  have hp:=List.pairwise_append.1 (show RiseE (es.take k++es.drop k) by rw [List.take_append_drop]; exact hr)
  have heT:∀ e∈es.take k,EOk N lvl e:=fun e h=>he e (List.mem_of_mem_take h)
  have heD:∀ e∈es.drop k,EOk N lvl e:=fun e h=>he e (List.mem_of_mem_drop h)
  have hT:EsOk N lvl (es.take k):=⟨ht0,by omega,hp.1,heT⟩
  have hD:EsOk N lvl (es.drop k):=⟨hd0,by omega,hp.2.1,heD⟩
  have m1:=nsize_max heT
  have m2:=nsize_max heD
  have hT2:0 < lvl→2≤(es.take k).length:=fun h0=>by
   rw [hM.2 h0] at m1 hE
   omega
  have hD2:0 < lvl→2≤(es.drop k).length:=fun h0=>by
   rw [hM.2 h0] at m2 hE
   omega
  refine ⟨fun x hx=>?_,fun _ x hx=>?_⟩
  ·simp only [List.mem_cons,List.not_mem_nil,or_false] at hx
   rcases hx with rfl | rfl
   ·exact hT
   ·exact hD
  ·simp only [List.mem_cons,List.not_mem_nil,or_false] at hx
   rcases hx with rfl | rfl
   ·exact ⟨hT,hT2⟩
   ·exact ⟨hD,hD2⟩
def kidOf (t:Nat) (L:List En):En:=⟨(L.head?.map En.key).getD [],[],t⟩
theorem place_kids {B:Nat→Bytes} {N l:Nat}:∀ {Ls:List (List En)} {ts:List Nat} {prs:List Pr} {pgs:List Nat},ts.length=Ls.length→Nb B N l Ls.flatten prs pgs→(∀ L∈Ls,NdOk N l L)→(∀ t∈ts,t < N) →
  (∀ (i t:Nat) (L:List En),ts[i]? = some t→Ls[i]? = some L→B t=sealL 3 (bodyL l L))→∃ kids:List Sb,kids.map kidE=(ts.zip Ls).map (fun p=>kidOf p.1 p.2)∧kids.flatMap Sb.prs=prs∧(kids.flatMap Sb.pgs).Perm (ts++pgs)∧∀ k∈kids,Sub B N l k
 | [],ts,prs,pgs,hl,hn,_,_,_=>by
  have:ts=[]:=List.eq_nil_of_length_eq_zero hl
  subst this
  refine ⟨[],rfl,?_,?_,fun _ h=>by cases h⟩
  ·cases l with
   | zero =>
    obtain ⟨h1,_⟩:=Nb.zero.1 hn
    exact (List.map_eq_nil_iff.1 h1.symm).symm
   | succ l =>
    obtain ⟨kids,h1,rfl,_⟩:=Nb.succ.1 hn
    rw [List.map_eq_nil_iff.1 h1.symm]
  ·cases l with
   | zero =>
    obtain ⟨_,rfl⟩:=Nb.zero.1 hn
    exact List.Perm.refl _
   | succ l =>
    obtain ⟨kids,h1,_,rfl,_⟩:=Nb.succ.1 hn
    rw [List.map_eq_nil_iff.1 h1.symm]
    exact List.Perm.refl _
 | L::Ls,[],prs,pgs,hl,_,_,_,_=>by cases hl
 | L::Ls,t::ts,prs,pgs,hl,hn,ho,ht,hB=>by
  rw [List.flatten_cons] at hn
  obtain ⟨p1,p2,g1,g2,rfl,rfl,n1,n2⟩:=hn.split
  obtain ⟨kids,i1,i2,i3,i4⟩:=place_kids (Ls:=Ls) (ts:=ts) (by simpa using hl) n2 (fun x hx=>ho x (List.mem_cons_of_mem _ hx)) (fun x hx=>ht x (List.mem_cons_of_mem _ hx)) (fun i t L h1 h2=>hB (i+1) t L (by simpa using h1) (by simpa using h2))
  have hL:=ho L List.mem_cons_self
  have hhd:L.head?.map En.key=some ((L.head?.map En.key).getD []):=by
   rcases L with _ | ⟨e,r⟩
   ·exact absurd rfl hL.1.1
   ·rfl
  refine ⟨⟨(L.head?.map En.key).getD [],t,p1,t::g1⟩::kids,?_,?_,?_,fun k hk=>?_⟩
  ·rw [List.map_cons,i1]
   rfl
  ·rw [List.flatMap_cons,i2]
  ·rw [List.flatMap_cons]
   show (t::(g1++kids.flatMap Sb.pgs)).Perm (t::(ts++(g1++g2)))
   refine List.Perm.cons t ?_
   refine ((List.Perm.refl g1).append i3).trans ?_
   rw [← List.append_assoc, ← List.append_assoc]
   exact List.perm_append_comm.append_right g2
  ·rcases List.mem_cons.1 hk with rfl | h
   ·exact ⟨L,g1,hL,hB 0 t L rfl rfl,n1,rfl,hhd,ht t List.mem_cons_self⟩
   ·exact i4 k h
theorem placeE_kids (l:List Pg) (lvl:Nat) (Ls:List (List En)):placeE l (Ls.map (mkN lvl)) Ls.length=((placeT l Ls.length).zip Ls).map (fun p=>kidOf p.1 p.2):=by
 apply List.ext_getElem?
 intro i
 unfold placeE placeT
 rcases Nat.lt_or_ge i Ls.length with h | h
 ·rw [List.getElem?_map,List.getElem?_map,List.getElem?_range h]
  have e:((List.map (tooks l) (List.range Ls.length)).zip Ls)[i]? = some (tooks l i,Ls[i]):=by
   rw [List.getElem?_zip_eq_some,List.getElem?_map,List.getElem?_range h]
   exact ⟨rfl,List.getElem?_eq_getElem h⟩
  rw [e]
  simp only [Option.map_some,List.getElem?_map,List.getElem?_eq_getElem h,Option.getD_some]
  unfold hkey kidOf mkN
  simp only
  congr 2
  cases Ls[i] <;> rfl
 ·rw [List.getElem?_eq_none (by simpa using h),List.getElem?_eq_none (by simp; omega)]
theorem placeB_kids (lvl:Nat) (Ls:List (List En)):placeB (Ls.map (mkN lvl)) Ls.length=Ls.map fun L=>sealL 3 (bodyL lvl L):=by
 unfold placeB
 rw [List.take_of_length_le (by simp),List.map_map]
 rfl
structure Redone (B:Nat→Bytes) (N lvl:Nat) (Ls:List (List En)) (prs:List Pr) (pgs:List Nat):Prop where
 few:Ls.length≤2
 ok:∀ L∈Ls,EsOk N lvl L
 two:Ls.length=2→∀ L∈Ls,NdOk N lvl L
 nb:Nb B N lvl Ls.flatten prs pgs
 some_:0 < lvl→Ls≠[]
theorem placeB_512 {N lvl:Nat} {Ls:List (List En)} (h:∀ L∈Ls,NdOk N lvl L) (i:Nat):∀ b∈placeB (Ls.map (mkN lvl)) i,b.length=512:=by
 intro b hb
 obtain ⟨n,hn,rfl⟩:=List.mem_map.1 hb
 obtain ⟨L,hL,rfl⟩:=List.mem_map.1 (List.mem_of_mem_take hn)
 have h1:nsize lvl L≤503:=(h L hL).1.2.1
 have h2:(bodyL lvl L).length≤505:=by rw [bodyL_length]; omega
 show (sealL 3 (bodyL lvl L)).length=512
 exact sealL_length h2
theorem tdone_free {l:List Pg} {n:Nat} (h:(tdone l)[n]? = some (false,false)):l[n]? = some (false,false):=by
 rw [tdone_get] at h
 split at h
 ·cases h
 ·exact h
theorem tdones_free {l:List Pg} {n:Nat}:∀ {j:Nat},(tdones j l)[n]? = some (false,false)→l[n]? = some (false,false)
 | 0,h=>h
 | _+1,h=>tdones_free (tdone_free h)
theorem least_free {l:List Pg} {i j n:Nat} (h:leastFree (tdones j (tdones i l))=some n):l[n]? = some (false,false):=by
 obtain ⟨x,hx,h0,_⟩:=least_some h
 rw [pnum_free.1 h0] at hx
 exact tdones_free (tdones_free hx)
theorem free_add {l:List Pg} {i1 i2:Nat} (h1:∀ j,j < i1→leastFree (tdones j l)≠none) (h2:∀ j,j < i2→leastFree (tdones j (tdones i1 l))≠none):∀ j,j < i1+i2→leastFree (tdones j l)≠none:=fun j hj=>by
 rcases Nat.lt_or_ge j i1 with h | h
 ·exact h1 j h
 ·have:=h2 (j-i1) (by omega)
  rw [tdones_add,show i1+(j-i1)=j by omega] at this
  exact this
end Go.Proofs.YtgkofgifoiinkaaGreat
namespace Go.Proofs.YtgkofgifoiinkaaGreat
open Go.RowKit
def fillStep (lvl:Nat):List (List En)→En→List (List En)
 | [],e=>[[e]]
 | [a],e=>if 503 < nsize lvl a+esize lvl e then [a,[e]] else [a++[e]]
 | a::b::r,e=>a::fillStep lvl (b::r) e
def fillL (lvl:Nat) (es:List En):List (List En):=es.foldl (fillStep lvl) []
def shareL (lvl:Nat):List (List En)→List (List En)
 | []=>[]
 | [a]=>[a]
 | [a,b]=>if loneB lvl b.length=true then [a.take (a.length-1),a.drop (a.length-1)++b] else [a,b]
 | a::b::c::r=>a::shareL lvl (b::c::r)
theorem fill_snoc (lvl:Nat) (e:En):∀ (i:List (List En)) (a:List En),fillStep lvl (i++[a]) e=if 503 < nsize lvl a+esize lvl e then i++[a,[e]] else i++[a++[e]]
 | [],a=>by
  show (if 503 < nsize lvl a+esize lvl e then [a,[e]] else [a++[e]])=_
  split <;> rfl
 | [b],a=>by
  show b::(if 503 < nsize lvl a+esize lvl e then [a,[e]] else [a++[e]])=_
  split <;> rfl
 | b::c::r,a=>by
  have ih:=fill_snoc lvl e (c::r) a
  show b::fillStep lvl (c::r++[a]) e=_
  rw [ih]
  split <;> rfl
theorem share_snoc (lvl:Nat):∀ (i:List (List En)) (a b:List En),shareL lvl (i++[a,b])=if loneB lvl b.length=true then i++[a.take (a.length-1),a.drop (a.length-1)++b] else i++[a,b]
 | [],a,b=>by
  show (if loneB lvl b.length=true then [a.take (a.length-1),a.drop (a.length-1)++b] else [a,b])=_
  split <;> rfl
 | [c],a,b=>by
  show c::(if loneB lvl b.length=true then [a.take (a.length-1),a.drop (a.length-1)++b] else [a,b])=_
  split <;> rfl
 | c::d::r,a,b=>by
  have ih:=share_snoc lvl (d::r) a b
  have e:shareL lvl (c::d::r++[a,b])=c::shareL lvl (d::r++[a,b]):=by
   cases r <;> rfl
  rw [e,ih]
  split <;> rfl
structure FillOk (lvl:Nat) (es:List En) (Ls:List (List En)):Prop where
 flat:Ls.flatten=es
 ne:∀ L∈Ls,L≠[]
 fit:∀ L∈Ls,nsize lvl L≤503
 full:∀ (i:List (List En)) (a b:List En) (r:List (List En)),Ls=i++a::b::r→∃ e,b.head? = some e∧503 < nsize lvl a+esize lvl e
theorem snoc_cases {α:Type} (l:List α):l=[]∨∃ i a,l=i++[a]:=by
 rcases List.eq_nil_or_concat l with h | ⟨i,a,h⟩
 ·exact .inl h
 ·exact .inr ⟨i,a,by rw [h,List.concat_eq_append]⟩
theorem snoc_cases3 {α:Type} (l:List α):l=[]∨(∃ a,l=[a])∨∃ i a b,l=i++[a,b]:=by
 rcases snoc_cases l with h | ⟨i,b,rfl⟩
 ·exact .inl h
 ·rcases snoc_cases i with rfl | ⟨i,a,rfl⟩
  ·exact .inr (.inl ⟨b,rfl⟩)
  ·exact .inr (.inr ⟨i,a,b,by simp⟩)
theorem last_split {α:Type} {l:List α} (h:l≠[]):∃ i a,l=i++[a]:=(snoc_cases l).resolve_left h
theorem mid_snoc {α:Type} {i:List α} {c a b:α} {i' r:List α} (h:i++[c]=i'++a::b::r):(∃ r',r=r'++[c]∧i=i'++a::b::r')∨(r=[]∧b=c∧i=i'++[a]):=by
 rcases snoc_cases r with rfl | ⟨r',x,rfl⟩
 ·have h2:i++[c]=(i'++[a])++[b]:=by rw [h]; simp
  obtain ⟨e1,e2⟩:=List.append_inj' h2 rfl
  exact .inr ⟨rfl,by simpa using e2.symm,e1⟩
 ·have h2:i++[c]=(i'++a::b::r')++[x]:=by rw [h]; simp
  obtain ⟨e1,e2⟩:=List.append_inj' h2 rfl
  exact .inl ⟨r',by have:c=x:=by simpa using e2
                    rw [this],e1⟩
theorem FillOk.step {lvl:Nat} {es:List En} {Ls:List (List En)} (h:FillOk lvl es Ls) {e:En} (he:esize lvl e≤503):FillOk lvl (es++[e]) (fillStep lvl Ls e):=by
 by_cases hn:Ls=[]
 ·subst hn
  have h1:=h.flat
  simp only [List.flatten_nil] at h1
  subst h1
  refine ⟨rfl,fun L hL=>?_,fun L hL=>?_,fun i a b r hh=>?_⟩
  ·rw [List.mem_singleton.1 hL]; simp
  ·rw [List.mem_singleton.1 hL,nsize_cons,nsize_nil]; omega
  ·have:=congrArg List.length hh
   simp [fillStep] at this
   omega
 ·obtain ⟨i,a,rfl⟩:=last_split hn
  rw [fill_snoc]
  have hf:=h.flat
  rw [List.flatten_append,List.flatten_singleton] at hf
  split
  ·rename_i hgt
   refine ⟨?_,fun L hL=>?_,fun L hL=>?_,fun i' a' b' r hh=>?_⟩
   ·rw [← hf]; simp
   ·simp only [List.mem_append,List.mem_cons,List.not_mem_nil,or_false] at hL
    rcases hL with hL | rfl | rfl
    ·exact h.ne L (by simp [hL])
    ·exact h.ne L (by simp)
    ·simp
   ·simp only [List.mem_append,List.mem_cons,List.not_mem_nil,or_false] at hL
    rcases hL with hL | rfl | rfl
    ·exact h.fit L (by simp [hL])
    ·exact h.fit L (by simp)
    ·rw [nsize_cons,nsize_nil]; omega
   ·have h2:(i++[a])++[[e]]=i'++a'::b'::r:=by rw [← hh]; simp
    rcases mid_snoc h2 with ⟨r',rfl,h3⟩ | ⟨rfl,rfl,h3⟩
    ·exact h.full i' a' b' r' h3
    ·obtain ⟨_,e2⟩:=List.append_inj' h3 rfl
     have e3:a=a':=by simpa using e2
     subst e3
     exact ⟨e,rfl,hgt⟩
  ·rename_i hle
   refine ⟨?_,fun L hL=>?_,fun L hL=>?_,fun i' a' b' r hh=>?_⟩
   ·rw [← hf]; simp
   ·simp only [List.mem_append,List.mem_cons,List.not_mem_nil,or_false] at hL
    rcases hL with hL | rfl
    ·exact h.ne L (by simp [hL])
    ·simp
   ·simp only [List.mem_append,List.mem_cons,List.not_mem_nil,or_false] at hL
    rcases hL with hL | rfl
    ·exact h.fit L (by simp [hL])
    ·rw [nsize_append,nsize_cons,nsize_nil]; omega
   ·rcases mid_snoc hh with ⟨r',rfl,h3⟩ | ⟨rfl,rfl,h3⟩
    ·exact h.full i' a' b' (r'++[a]) (by rw [h3]; simp)
    ·obtain ⟨x,hx1,hx2⟩:=h.full i' a' a [] (by rw [h3]; simp)
     refine ⟨x,?_,hx2⟩
     rcases a with _ | ⟨y,t⟩
     ·cases hx1
     ·exact hx1
theorem fill_take (lvl:Nat) (es:List En) {j:Nat} {e:En} (h:es[j]? = some e):fillL lvl (es.take (j+1))=fillStep lvl (fillL lvl (es.take j)) e:=by
 unfold fillL
 rw [List.take_add_one,h,Option.toList_some,List.foldl_append]
 rfl
theorem fill_ok {lvl:Nat} {es:List En} (he:∀ e∈es,esize lvl e≤503):∀ j,j≤es.length→FillOk lvl (es.take j) (fillL lvl (es.take j))
 | 0,_=>⟨rfl,(fun _ h=>by cases h),(fun _ h=>by cases h),fun i a b r hh=>by simp [fillL] at hh⟩
 | j+1,h=>by
  obtain ⟨e,hj⟩:∃ e,es[j]? = some e:=⟨_,List.getElem?_eq_getElem (by omega)⟩
  have ih:=(fill_ok he j (by omega)).step (he e (List.mem_of_getElem? hj))
  rw [fill_take lvl es hj]
  have e2:es.take (j+1)=es.take j++[e]:=by rw [List.take_add_one,hj]; rfl
  rw [e2]
  exact ih
structure Filled (N lvl:Nat) (es:List En) (Ls:List (List En)):Prop where
 flat:Ls.flatten=es
 ok:∀ L∈Ls,EsOk N lvl L
 two:2≤Ls.length→∀ L∈Ls,NdOk N lvl L
 few:∀ (i:List (List En)) (a b:List En) (r:List (List En)),Ls=i++a::b::r→503 < nsize lvl a+nsize lvl b
theorem head_size {lvl:Nat} {b:List En} {e:En} (h:b.head? = some e):esize lvl e≤nsize lvl b:=by
 rcases b with _ | ⟨x,r⟩
 ·cases h
 ·cases h
  rw [nsize_cons]
  omega
theorem Filled.of {N lvl:Nat} {es:List En} (he:∀ e∈es,EOk N lvl e) (hr:RiseE es):Filled N lvl es (shareL lvl (fillL lvl es)):=by
 have hM:∀ e∈es,esize lvl e≤maxE lvl:=fun e h=>(he e h).size
 have hM2:maxE lvl≤164∧(0 < lvl→maxE lvl=38):=by
  unfold maxE
  split <;> omega
 have hF:=fill_ok (lvl:=lvl) (es:=es) (fun e h=>by have:=hM e h; omega) es.length (Nat.le_refl _)
 rw [List.take_length] at hF
 have hmem:∀ L∈fillL lvl es,∀ e∈L,e∈es:=fun L hL e h=>by rw [← hF.flat]; exact List.mem_flatten.2 ⟨L,hL,h⟩
 have hrise:∀ (i r:List (List En)) (L:List En),fillL lvl es=i++L::r→RiseE L:=fun i r L h=>by
  have h1:=hr
  rw [← hF.flat,h,List.flatten_append,List.flatten_cons] at h1
  exact (List.pairwise_append.1 (List.pairwise_append.1 h1).2.1).1
 have hok:∀ L∈fillL lvl es,EsOk N lvl L:=fun L hL=>by
  obtain ⟨i,r,h⟩:=List.append_of_mem hL
  exact ⟨hF.ne L hL,hF.fit L hL,hrise i r L h,fun e h=>he e (hmem L hL e h)⟩
 have hbig:∀ (i:List (List En)) (a b:List En) (r:List (List En)),fillL lvl es=i++a::b::r→503 < nsize lvl a+maxE lvl:=fun i a b r h=>by
  obtain ⟨e,h1,h2⟩:=hF.full i a b r h
  have h3:e∈b:=by
   rcases b with _ | ⟨x,t⟩
   ·cases h1
   ·cases h1; simp
  have:=hM e (hmem b (by rw [h]; simp) e h3)
  omega
 have hcnt:∀ (i:List (List En)) (a b:List En) (r:List (List En)),fillL lvl es=i++a::b::r→0 < lvl→12≤a.length:=fun i a b r h h0=>by
  have h1:=hbig i a b r h
  have h2:=nsize_max (N:=N) (lvl:=lvl) (es:=a) (fun e hh=>he e (hmem a (by rw [h]; simp) e hh))
  rw [hM2.2 h0] at h1 h2
  omega
 generalize hG:fillL lvl es=G at *
 rcases snoc_cases3 G with rfl | ⟨b,rfl⟩ | ⟨i,a,b,rfl⟩
 ·exact ⟨hF.flat,(fun _ h=>by cases h),(fun h=>absurd h (by simp [shareL])),fun i a b r h=>by simp [shareL] at h⟩
 ·exact ⟨hF.flat,hok,(fun h=>absurd h (by simp [shareL])),fun i a b r h=>by
   have:=congrArg List.length h
   simp [shareL] at this
   omega⟩
 rw [share_snoc]
 split
 ·rename_i hl
  unfold loneB at hl
  have h0:0 < lvl:=of_decide_eq_true (Bool.and_eq_true_iff.1 hl).1
  have hb2:b.length < 2:=of_decide_eq_true (Bool.and_eq_true_iff.1 hl).2
  have hb1:b≠[]:=hF.ne b (by simp)
  have hbl:b.length=1:=by have:=List.length_pos_iff.2 hb1; omega
  have ha12:=hcnt i a b [] rfl h0
  have hM0:=hM2.2 h0
  have hsa:=nsize_append lvl (a.take (a.length-1)) (a.drop (a.length-1))
  rw [List.take_append_drop] at hsa
  have hdl:(a.drop (a.length-1)).length=1:=by rw [List.length_drop]; omega
  have hea:∀ e∈a,EOk N lvl e:=fun e h=>he e (hmem a (by simp) e h)
  have heb:∀ e∈b,EOk N lvl e:=fun e h=>he e (hmem b (by simp) e h)
  have hsd:=nsize_max (N:=N) (lvl:=lvl) (es:=a.drop (a.length-1)) (fun e h=>hea e (List.mem_of_mem_drop h))
  have hsb:=nsize_max (N:=N) (lvl:=lvl) (es:=b) heb
  rw [hdl,hM0] at hsd
  rw [hbl,hM0] at hsb
  have hfull:=hbig i a b [] rfl
  rw [hM0] at hfull
  have hrab:RiseE (a++b):=by
   have h1:=hr
   rw [← hF.flat,List.flatten_append] at h1
   have:=(List.pairwise_append.1 h1).2.1
   show List.Pairwise _ (a++b)
   simpa using this
  have hrs:RiseE (a.take (a.length-1)++(a.drop (a.length-1)++b)):=by rw [← List.append_assoc,List.take_append_drop]; exact hrab
  have hfa:=hF.fit a (by simp)
  have hA:NdOk N lvl (a.take (a.length-1)):=⟨⟨fun e=>by have:=congrArg List.length e; rw [List.length_take,List.length_nil] at this; omega,by omega,(List.pairwise_append.1 hrs).1,fun e h=>hea e (List.mem_of_mem_take h)⟩,fun _=>by rw [List.length_take]; omega⟩
  have hB:NdOk N lvl (a.drop (a.length-1)++b):=⟨⟨by simp [hb1],by rw [nsize_append]; omega,(List.pairwise_append.1 hrs).2.1,fun e h=>(List.mem_append.1 h).elim (fun h=>hea e (List.mem_of_mem_drop h)) (heb e)⟩,fun _=>by rw [List.length_append]; omega⟩
  have hI:∀ L∈i,NdOk N lvl L:=fun L hL=>by
   obtain ⟨p,q,h⟩:=List.append_of_mem hL
   refine ⟨hok L (by simp [hL]),fun _=>?_⟩
   rcases q with _ | ⟨y,q⟩
   ·have:=hcnt p L a [b] (by rw [h]; simp) h0
    omega
   ·have:=hcnt p L y (q++[a,b]) (by rw [h]; simp) h0
    omega
  have hall:∀ L∈i++[a.take (a.length-1),a.drop (a.length-1)++b],NdOk N lvl L:=fun L hL=>by
   simp only [List.mem_append,List.mem_cons,List.not_mem_nil,or_false] at hL
   rcases hL with hL | rfl | rfl
   ·exact hI L hL
   ·exact hA
   ·exact hB
  refine ⟨?_,fun L hL=>(hall L hL).1,fun _=>hall,fun i' x y r h=>?_⟩
  ·rw [← hF.flat]
   simp only [List.flatten_append,List.flatten_cons,List.flatten_nil,List.append_nil]
   rw [← List.append_assoc (a.take (a.length-1)),List.take_append_drop]
  ·have h2:(i++[a.take (a.length-1)])++[a.drop (a.length-1)++b]=i'++x::y::r:=by rw [← h]; simp
   rcases mid_snoc h2 with ⟨r',rfl,h3⟩ | ⟨rfl,rfl,h3⟩
   ·rcases mid_snoc h3 with ⟨r'',rfl,h4⟩ | ⟨rfl,rfl,h4⟩
    ·obtain ⟨e,g1,g2⟩:=hF.full i' x y (r''++[a,b]) (by rw [h4]; simp)
     have:=head_size (lvl:=lvl) g1
     omega
    ·have hx:=hbig i' x a [b] (by rw [h4]; simp)
     rw [hM0] at hx
     omega
   ·obtain ⟨_,e2⟩:=List.append_inj' h3 rfl
    have e3:a.take (a.length-1)=x:=by simpa using e2
    subst e3
    obtain ⟨e,g1,g2⟩:=hF.full i a b [] rfl
    have:=head_size (lvl:=lvl) g1
    rw [nsize_append]
    omega
 ·rename_i hl
  have hall:∀ L∈i++[a,b],NdOk N lvl L:=fun L hL=>by
   refine ⟨hok L hL,fun h0=>?_⟩
   simp only [List.mem_append,List.mem_cons,List.not_mem_nil,or_false] at hL
   rcases hL with hL | rfl | rfl
   ·obtain ⟨p,q,h⟩:=List.append_of_mem hL
    rcases q with _ | ⟨y,q⟩
    ·have:=hcnt p L a [b] (by rw [h]; simp) h0
     omega
    ·have:=hcnt p L y (q++[a,b]) (by rw [h]; simp) h0
     omega
   ·have:=hcnt i L b [] rfl h0
    omega
   ·unfold loneB at hl
    rw [decide_eq_true h0,Bool.true_and,decide_eq_true_eq] at hl
    omega
  refine ⟨hF.flat,hok,fun _=>hall,fun i' x y r h=>?_⟩
  obtain ⟨e,g1,g2⟩:=hF.full i' x y r h
  have:=head_size (lvl:=lvl) g1
  omega
theorem pairs_sum (s:List Nat) (hs:∀ (i:List Nat) (a b:Nat) (r:List Nat),s=i++a::b::r→503 < a+b):s.length≤2*s.sum / 503+1:=by
 have key:∀ (s:List Nat),(∀ (i:List Nat) (a b:Nat) (r:List Nat),s=i++a::b::r→503 < a+b)→503*(s.length-1)+(s.head?.getD 0)≤2*s.sum:=by
  intro s
  induction s with
  | nil=>intro _; simp
  | cons a r ih =>
   intro h
   rcases r with _ | ⟨b,r⟩
   ·simp; omega
   ·have h1:=h [] a b r rfl
    have h2:=ih fun i x y t ht=>h (a::i) x y t (by rw [ht]; rfl)
    simp only [List.length_cons,List.head?_cons,Option.getD_some,List.sum_cons] at h2 ⊢
    omega
 have h1:=key s hs
 omega
theorem Filled.count {N lvl:Nat} {es:List En} {Ls:List (List En)} (h:Filled N lvl es Ls):Ls.length≤2*nsize lvl es / 503+1:=by
 have e:(Ls.map (nsize lvl)).sum=nsize lvl es:=by
  rw [← h.flat]
  clear h
  induction Ls with
  | nil=>rfl
  | cons a r ih=>rw [List.map_cons,List.sum_cons,List.flatten_cons,nsize_append,ih]
 have:=pairs_sum (Ls.map (nsize lvl)) (fun i a b r hh=>by
  obtain ⟨i',t,e1,rfl,e2⟩:=List.map_eq_append_iff.1 hh
  obtain ⟨x,t',rfl,rfl,e3⟩:=List.map_eq_cons_iff.1 e2
  obtain ⟨y,t'',rfl,rfl,e4⟩:=List.map_eq_cons_iff.1 e3
  exact h.few i' x y t'' e1)
 rw [List.length_map,e] at this
 exact this
def mostN (n:Nat):Nat:=if _h:n≤1 then n else n+mostN (2*(n*38) / 503+1)
termination_by n
decreasing_by omega
theorem mostN_small {n:Nat} (h:n≤1):mostN n=n:=by rw [mostN,dif_pos h]
theorem mostN_big {n:Nat} (h:1 < n):mostN n=n+mostN (2*(n*38) / 503+1):=by rw [mostN,dif_neg (by omega)]
theorem mostN_mono:∀ (k n m:Nat),m≤k→n≤m→mostN n≤mostN m
 | 0,n,m,h1,h2=>by
  have:n=0:=by omega
  have:m=0:=by omega
  subst_vars
  exact Nat.le_refl _
 | k+1,n,m,h1,h2=>by
  by_cases hn:n≤1
  ·rw [mostN_small hn]
   by_cases hm:m≤1
   ·rw [mostN_small hm]; exact h2
   ·rw [mostN_big (by omega)]; omega
  ·rw [mostN_big (by omega),mostN_big (show 1 < m by omega)]
   have:=mostN_mono k (2*(n*38) / 503+1) (2*(m*38) / 503+1) (by omega) (by omega)
   omega
theorem mostN_le (n:Nat):n≤mostN n:=by
 by_cases h:n≤1
 ·rw [mostN_small h]; exact Nat.le_refl _
 ·rw [mostN_big (by omega)]; omega
end Go.Proofs.YtgkofgifoiinkaaGreat
namespace Go.Proofs.YtgkofgifoiinkaaGreat
open Go.RowKit
theorem take_snoc {ls:List Pr} {r:Nat} {p:Pr} (hp:ls[r]? = some p):ls.take (r+1)=ls.take r++[p]:=by rw [List.take_add_one,hp]; rfl
def okUp (ls:List Pr):Prop:=(∀ p∈ls,PrOk p)∧RiseP ls
theorem okUp_nil:okUp []:=⟨fun p hp=>(by cases hp),List.Pairwise.nil⟩
theorem okUp_last {ls:List Pr} {r:Nat} {p q:Pr} (h:okUp ls) (hp:ls[r]? = some p) (hq:ls[r-1]? = some q) (h0:0 < r):cmp q.1 p.1 < 0:=by
 obtain ⟨h1,rfl⟩:=List.getElem?_eq_some_iff.1 hp
 obtain ⟨h2,rfl⟩:=List.getElem?_eq_some_iff.1 hq
 exact List.pairwise_iff_getElem.1 h.2 (r-1) r h2 h1 (by omega)
theorem okUp_step {ls:List Pr} {r:Nat} {p:Pr} (h:okUp (ls.take r)) (hp:ls[r]? = some p) (ho:PrOk p) (hl:∀ q,0 < r→ls[r-1]? = some q→cmp q.1 p.1 < 0):okUp (ls.take (r+1)):=by
 rw [take_snoc hp]
 refine ⟨fun q hq=>?_,RiseP.append.2 ⟨h.2,List.pairwise_singleton _ _,fun x hx y hy=>?_⟩⟩
 ·rcases List.mem_append.1 hq with h1 | h1
  ·exact h.1 q h1
  ·rw [List.mem_singleton.1 h1]; exact ho
 ·rw [List.mem_singleton.1 hy]
  obtain ⟨i,hi,e⟩:=List.getElem_of_mem hx
  have hr:=(List.getElem?_eq_some_iff.1 hp).1
  rw [List.length_take] at hi
  have h3:=hl ls[r-1] (by omega) (List.getElem?_eq_getElem (by omega))
  rw [List.getElem_take] at e
  rcases Nat.lt_or_ge i (r-1) with h1 | h1
  ·have h2:=List.pairwise_iff_getElem.1 h.2 i (r-1) (by rw [List.length_take]; omega) (by rw [List.length_take]; omega) h1
   rw [List.getElem_take,List.getElem_take,e] at h2
   exact cmp_ltt h2 h3
  ·have:i=r-1:=by omega
   subst this
   rw [← e]
   exact h3
theorem prOk_may {p:Pr}:PrOk p↔mayK p.1=true∧mayV p.2=true:=by
 unfold PrOk mayK mayV
 simp
def bytesP (ls:List Pr):Nat:=(ls.map fun p=>4+p.1.length+p.2.length).sum
def mostP (ls:List Pr):Nat:=if ls=[] then 0 else mostN (2*bytesP ls / 503+1)
end Go.Proofs.YtgkofgifoiinkaaGreat
namespace Go.Proofs.YtgkofgifoiinkaaGreat
open Go.RowKit
def inSpan (f t:Bytes) (prs:List Pr):List Pr:=prs.filter fun p=>hasB p.1 f t
theorem inSpan_append (f t:Bytes) (a b:List Pr):inSpan f t (a++b)=inSpan f t a++inSpan f t b:=List.filter_append ..
theorem inSpan_none {f t:Bytes} {prs:List Pr} (h:∀ p∈prs,hasB p.1 f t=false):inSpan f t prs=[]:=by
 unfold inSpan
 rw [List.filter_eq_nil_iff]
 intro p hp
 rw [h p hp]
 simp
theorem hasB_all (k:Bytes):hasB k [] []=true:=by
 unfold hasB aheadB
 rcases k with _ | ⟨a,r⟩ <;> rfl
theorem sub_from {B:Nat→Bytes} {N l:Nat} {k:Sb} (h:Sub B N l k) (hr:RiseP k.prs) {p:Pr} (hp:p∈k.prs):cmp k.key p.1≤0:=by
 obtain ⟨v,r,e⟩:=h.first
 rw [e] at hp hr
 rcases List.mem_cons.1 hp with rfl | hp
 ·rw [cmp_refl]; omega
 ·have:=(List.pairwise_cons.1 hr).1 p hp
  exact Int.le_of_lt this
theorem skip_none {B:Nat→Bytes} {N l:Nat} {kids:List Sb} {toZ f t:Bytes} (hs:∀ k∈kids,Sub B N l k) (hr:RiseP (kids.flatMap Sb.prs)) (hu:Under (kids.flatMap Sb.prs) toZ)
  {i:Nat} {k:Sb} (hk:kids[i]? = some k) (hm:meetsB (kids.map kidE) toZ i f t=false):inSpan f t k.prs=[]:=by
 have hmem:=List.mem_of_getElem? hk
 have hrk:=rise_kid hr hmem
 have huk:=under_kid hs hr hu hk
 refine inSpan_none fun p hp=>?_
 have he:(kids.map kidE)[i]? = some (kidE k):=by rw [List.getElem?_map,hk]; rfl
 unfold meetsB at hm
 rw [he] at hm
 have hfrom:=sub_from (hs k hmem) hrk hp
 unfold hasB
 rw [Bool.and_eq_false_iff]
 rcases Bool.and_eq_false_iff.1 hm with h1 | h1
 ·right
  unfold aheadB at h1 ⊢
  rw [Bool.or_eq_false_iff] at h1 ⊢
  refine ⟨h1.1,decide_eq_false fun hlt=>?_⟩
  have h2:¬ cmp k.key t < 0:=of_decide_eq_false h1.2
  exact h2 (cmp_le_lt hfrom hlt)
 ·left
  rw [Bool.or_eq_false_iff] at h1
  have h2:=of_decide_eq_false h1.1
  have h3:=of_decide_eq_false h1.2
  refine decide_eq_false fun hge=>?_
  rcases huk with h4 | h4
  ·rw [h4] at h2; exact h2 rfl
  ·have h5:=h4 p hp
   have h6:=cmp_lt_le h5 (by omega:cmp (endK (kids.map kidE) toZ i) f≤0)
   omega
theorem meets_all {es:List En} {toZ:Bytes} {i:Nat} (hi:i < es.length):meetsB es toZ i [] []=true:=by
 unfold meetsB
 rw [List.getElem?_eq_getElem hi]
 show (true && (decide ((endK es toZ i).length=0) || decide (0 < cmp (endK es toZ i) [])))=true
 rw [Bool.true_and]
 rcases endK es toZ i with _ | ⟨a,r⟩ <;> rfl
end Go.Proofs.YtgkofgifoiinkaaGreat
