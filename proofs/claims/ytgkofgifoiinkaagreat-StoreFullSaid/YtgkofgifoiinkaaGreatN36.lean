/- The nodes of a root, as they are ranged over: the walks of nodes and of what it hands back; condition: the tree is whole, the power is on, whoever takes them goes on. -/
import Derived.Test.YtgkofgifoiinkaaGreatN18
import Derived.Test.YtgkofgifoiinkaaGreatN13
import Derived.Test.YtgkofgifoiinkaaGreatN35
import Derived.OwnWalkIn
import Derived.TacticsInMore
import Derived.LoopNIn
import Derived.LoopIn
import Derived.Test.YtgkofgifoiinkaaGreatN26
namespace Go.Proofs.YtgkofgifoiinkaaGreat
open Go.RowKit
attribute [local go_sem] Oper.semAt_some
def Visits (J:List Nd→World→(Nat→Prop)→(Nat→Prop)→Prop) (f t:Bytes) (acc:List Nd) (prs:List Pr) (pgs:List Int) (W:World) (F:Nat→Prop) (e:Ending) (W':World):Prop :=
 e = .returned (.bool true)∧∃ C' F' ns,Step F W W' F'∧J (acc++ns) W' C' F'∧WentT f t ns prs pgs
def TakesN (J:List Nd→World→(Nat→Prop)→(Nat→Prop)→Prop) (S:Nat→Prop) (M L:Nat):Prop :=
 ∀ m acc nd v W C F,J acc W C F→Nv W (Su S F) v nd→nd.ents.length≤503→acc.length < M →
  YieldAt Fence.wide m Tryz.prog L #[v,err 0] W fun e W'=>e = .returned (.bool true)∧∃ C' F',Step C W W' C'∧J (acc++[nd]) W' C' F'∧(∀ q,F q→F' q)∧∀ q,F' q→F q∨W.heap.size≤q
section
variable {w:World} {J:List Nd→World→(Nat→Prop)→(Nat→Prop)→Prop} {tb db pb fr M L:Nat} {D:Dv} {ps:List Pg} {S:Nat→Prop} {fv tv:Value} {f t:Bytes}
theorem taken_step {C C' F F':Nat→Prop} {W W':World} (hs:Step C W W' C') (hc:∀ q,C q→F q) (hm:∀ q,F' q→F q∨W.heap.size≤q):Step F W W' F':=⟨hs.only.mono fun q _ hq=>hc q hq,hm⟩
set_option maxRecDepth 100000 in
set_option maxHeartbeats 4000000 in
theorem visit_leaf (H:HoldsT w J) (hY:TakesN J S M L) {pg:Int} {es:List En} {toZ:Bytes} {prs:List Pr} {gs:List Nat} {acc:List Nd} {v:Value} {W:World} {C F:Nat→Prop} {N:Nat} {B:Nat→Bytes} (hfew:es.length≤503) (hnb:Nb B N 0 es prs gs)
  (hJ:J acc W C F) (hv:Nv W (Su S F) v ⟨pg,0,es,toZ⟩) (hM:acc.length+1+gs.length≤M) :
  Calls Tryz.prog 146 #[ptr tb,v,err 0,spv fv tv, .func (.yield L) #[] #[]] W (Visits J f t acc prs (pg::ints gs) W F):=by
 obtain ⟨ea,ec,ta,tc,rfl,he,ht⟩:=hv
 simp only at he ht
 obtain ⟨en,hen⟩:∃ en,en=es.length:=⟨_,rfl⟩
 obtain ⟨tn,htn⟩:∃ tn,tn=toZ.length:=⟨_,rfl⟩
 rw [← hen] at he
 rw [← htn] at ht
 simp only [← hen, ← htn,Int.natCast_zero]
 have hb:Below W.heap.size W ((W.alloc (.cells #[.int .i64 pg, .int .i64 0, .slice ea en ec, .slice ta tn tc] 179)).alloc (.cells #[fv,tv] 176)):=((Below.refl _ _).alloc (Nat.le_refl _) _).alloc (by simp) _
 have C1:Cel ((W.alloc (.cells #[.int .i64 pg, .int .i64 0, .slice ea en ec, .slice ta tn tc] 179)).alloc (.cells #[fv,tv] 176)) W.heap.size [.int .i64 pg, .int .i64 0, .slice ea en ec, .slice ta tn tc] 179:=(Cel.new W _ _).alloc _
 have C2:Cel ((W.alloc (.cells #[.int .i64 pg, .int .i64 0, .slice ea en ec, .slice ta tn tc] 179)).alloc (.cells #[fv,tv] 176)) (W.heap.size+1) [fv,tv] 176:=by
  have:=Cel.new (W.alloc (.cells #[.int .i64 pg, .int .i64 0, .slice ea en ec, .slice ta tn tc] 179)) #[fv,tv] 176
  simpa using this
 have J0:=H.below hJ hb
 have st0:Step F W _ F:=Step.of_below hb F
 have hbase:=H.base hJ
 obtain ⟨fn,tmps,assign,body,hy,hR⟩:=hY (12-1) acc ⟨pg,0,es,toZ⟩ (ndv pg 0 (.slice ea en ec) (.slice ta tn tc)) _ C F J0 (Nv.of (n:=⟨pg,0,es,toZ⟩) (he.step (Su.step st0 S)) (ht.step (Su.step st0 S))) hfew (by omega)
 have a0:=C1.cell 0
 have a1:=C1.cell 1
 have a2:=C1.cell 2
 have a3:=C1.cell 3
 have HC:=Lib.hid (anZ C1 (anZ hbase (anZ st0 (anZ hnb (anZ hen htn)))))
 clear C1 C2 hbase st0 hnb J0 he ht hJ hb hfew hM hen htn
 have h11:1≤12-1:=by decide
 refine (callsIn_wide (n:=12)).1 (callsIn_of_wp Tryz.func146 rfl trivial ?_)
 simp only [Tryz.ntmps146,List.size_toArray,List.length_cons,List.length_nil,Nat.reduceAdd,Nat.reduceSub,Array.replicate_succ,Array.replicate_zero,List.push_toArray,List.append_toArray,List.nil_append,List.cons_append]
 gi_wp2
 refine hR.mono ?_
 rintro e W3 ⟨rfl,C',F',hst,hJ3, -,hmore⟩
 clear a0 a1 a2 a3 hR hy
 obtain ⟨C1,hbase,st0,hnb,hen,htn⟩:=HC.out
 have C3:=C1.only hst.only (fun hq=>by have:=(hbase.2.2 _ (hbase.2.1 _ hq)).2; omega)
 have b1:W3.cell? ⟨W.heap.size,1,none⟩=some (.int .i64 0):=C3.cell 1
 have HR:=Lib.hid (anZ hst (anZ hJ3 (anZ hbase (anZ st0 (anZ hnb hmore)))))
 clear C1 hbase st0 hnb hen htn C3 hst hJ3 HC hmore
 gi_wp2
 go_ret
 obtain ⟨hst,hJ3,hbase,st0,hnb,hmore⟩:=HR.out
 exact ⟨rfl,C',F',[⟨pg,0,es,toZ⟩],st0.trans (taken_step hst hbase.2.1 hmore),hJ3,WentT.leaf hnb⟩
theorem NdOk.few {N l:Nat} {es:List En} (h:NdOk N l es):es.length≤503:=h.1.few
theorem meets_some {es:List En} {toZ f t:Bytes} {i:Nat} (hi:i < es.length) (h:meetsB es toZ i f t=false):¬ (f=[]∧t=[]):=by
 rintro ⟨rfl,rfl⟩
 rw [meets_all hi] at h
 cases h
set_option maxRecDepth 100000 in
set_option maxHeartbeats 8000000 in
theorem visit_any (H:HoldsT w J) (hT:TrS w tb db pb fr D ps S) (ho:D.on=true) (hf:Bsf w S fv f) (hs:Bsf w S tv t) (hY:TakesN J S M L):∀ (l:Nat) {pg:Int} {es:List En} {toZ:Bytes} {prs:List Pr} {gs:List Nat} {acc:List Nd} {v:Value} {W:World} {C F:Nat→Prop},
  l≤4096→NdOk ps.length l es→Nb (blkOf D fr) ps.length l es prs gs→RiseP prs→Under prs toZ→J acc W C F→Nv W (Su S F) v ⟨pg,l,es,toZ⟩→acc.length+1+gs.length≤M →
  Calls Tryz.prog 146 #[ptr tb,v,err 0,spv fv tv, .func (.yield L) #[] #[]] W (Visits J f t acc prs (pg::ints gs) W F):=by
 intro l
 induction l with
 | zero =>
  intro pg es toZ prs gs acc v W C F hl hok hnb hr hu hJ hv hM
  exact visit_leaf H hY hok.few hnb hJ hv hM
 | succ l ih =>
  intro pg es toZ prs gs acc v W C F hl hok hnb hr hu hJ hv hM
  obtain ⟨kids,rfl,rfl,rfl,hk⟩:=Nb.succ.1 hnb
  obtain ⟨ea,ec,ta,tc,rfl,he,ht⟩:=hv
  simp only at he ht
  obtain ⟨en,hen⟩:∃ en,en=(kids.map kidE).length:=⟨_,rfl⟩
  obtain ⟨tn,htn⟩:∃ tn,tn=toZ.length:=⟨_,rfl⟩
  obtain ⟨lv,hlv⟩:∃ lv:Int,lv=((l+1:Nat):Int):=⟨_,rfl⟩
  rw [← hen] at he
  rw [← htn] at ht
  simp only [← hen, ← htn, ← hlv]
  have hb:Below W.heap.size W ((W.alloc (.cells #[.int .i64 pg, .int .i64 lv, .slice ea en ec, .slice ta tn tc] 179)).alloc (.cells #[fv,tv] 176)):=((Below.refl _ _).alloc (Nat.le_refl _) _).alloc (by simp) _
  have C1:Cel ((W.alloc (.cells #[.int .i64 pg, .int .i64 lv, .slice ea en ec, .slice ta tn tc] 179)).alloc (.cells #[fv,tv] 176)) W.heap.size [.int .i64 pg, .int .i64 lv, .slice ea en ec, .slice ta tn tc] 179:=(Cel.new W _ _).alloc _
  have C2:Cel ((W.alloc (.cells #[.int .i64 pg, .int .i64 lv, .slice ea en ec, .slice ta tn tc] 179)).alloc (.cells #[fv,tv] 176)) (W.heap.size+1) [fv,tv] 176:=by
   have:=Cel.new (W.alloc (.cells #[.int .i64 pg, .int .i64 lv, .slice ea en ec, .slice ta tn tc] 179)) #[fv,tv] 176
   simpa using this
  obtain ⟨W0,hW0⟩:∃ W0,W0=(W.alloc (.cells #[.int .i64 pg, .int .i64 lv, .slice ea en ec, .slice ta tn tc] 179)).alloc (.cells #[fv,tv] 176):=⟨_,rfl⟩
  rw [← hW0] at hb C1 C2
  have J0:=H.below hJ hb
  have st0:Step F W W0 F:=Step.of_below hb F
  have hbase:=H.base hJ
  have he0:=he.step (Su.step st0 S)
  have ht0:=ht.step (Su.step st0 S)
  have hnv:Nv W0 (Su S F) (ndv pg lv (.slice ea en ec) (.slice ta tn tc)) ⟨pg,l+1,kids.map kidE,toZ⟩:=by rw [hlv]; exact Nv.of (n:=⟨pg,l+1,kids.map kidE,toZ⟩) he0 ht0
  obtain ⟨fn,tmps,assign,body,hy,hR⟩:=hY (12-1) acc ⟨pg,l+1,kids.map kidE,toZ⟩ _ W0 C F J0 hnv hok.few (by omega)
  have a0:=C1.cell 0
  have a1:=C1.cell 1
  have a2:=C1.cell 2
  have a3:=C1.cell 3
  have HC:=Lib.hid (anZ C1 (anZ C2 (anZ hbase (anZ st0 (anZ he0 (anZ ht0 (anZ hen (anZ htn hlv))))))))
  have HK:=Lib.hid (anZ hk (anZ hr (anZ hu (anZ hl (anZ hM hok)))))
  rw [hW0] at hy hR a0 a1 a2 a3
  have HW:=Lib.hid hW0
  have hgt:¬ lv=0:=by omega
  have hgtb:(lv == 0)=false:=by rw [beq_eq_false_iff_ne]; exact hgt
  clear C1 C2 hbase st0 hnb J0 he ht he0 ht0 hJ hb hM hen htn hlv hW0 hk hr hu hl hok hnv
  have h11:1≤12-1:=by decide
  refine (callsIn_wide (n:=12)).1 (callsIn_of_wp Tryz.func146 rfl trivial ?_)
  simp only [Tryz.ntmps146,List.size_toArray,List.length_cons,List.length_nil,Nat.reduceAdd,Nat.reduceSub,Array.replicate_succ,Array.replicate_zero,List.push_toArray,List.append_toArray,List.nil_append,List.cons_append]
  gi_wp2
  refine hR.mono ?_
  rintro e W3 ⟨rfl,C',F',hst,hJ3, -,hmore⟩
  clear a0 a1 a2 a3 hR hy
  rw [← HW.out] at hst
  obtain ⟨C1,C2,hbase,st0,he0,ht0,hen,htn,hlv⟩:=HC.out
  rw [← HW.out] at hmore
  have hst0:=taken_step hst hbase.2.1 hmore
  have C3:=C1.only hst.only (fun hq=>by have:=(hbase.2.2 _ (hbase.2.1 _ hq)).2; omega)
  have b1:W3.cell? ⟨W.heap.size,1,none⟩=some (.int .i64 lv):=C3.cell 1
  have b2:W3.cell? ⟨W.heap.size,2,none⟩=some (.slice ea en ec):=C3.cell 2
  have HR:=Lib.hid (anZ hst0 hJ3)
  clear C1 C2 hbase st0 he0 ht0 hen htn hlv C3 hst hst0 hJ3 hmore
  gi_wp2
  gi_loopw [29] (fun i wr=>∃ (j:Nat) (C' F':Nat→Prop) (ns:List Nd),j≤en∧i = .int .i64 j∧Step F W0 wr F'∧J (acc++(⟨pg,l+1,kids.map kidE,toZ⟩::ns)) wr C' F'∧WentT f t ns ((kids.take j).flatMap Sb.prs) (ints ((kids.take j).flatMap Sb.pgs))) (fun i _=>en-(intOf i).toNat)
  case atStart=>exact ⟨0,_,_,[],Nat.zero_le _,rfl,HR.out.1,HR.out.2,WentT.nil f t⟩
  case round =>
   obtain ⟨j,C',F',ns,hj,rfl,hst,hJr,hw⟩:=hrel
   obtain ⟨C1,C2,hbase,st0,he0,ht0,hen,htn,hlv⟩:=HC.out
   obtain ⟨hk,hr,hu,hl,hM,hok⟩:=HK.out
   have hfew:en≤503:=by rw [hen]; exact hok.few
   by_cases hlt:j < en
   ·have Cr1:=C1.only hst.only (fun hq=>by have:=(hbase.2.2 _ hq).2; omega)
    have Cr2:=C2.only hst.only (fun hq=>by have:=(hbase.2.2 _ hq).2; omega)
    have hjl:j < (kids.map kidE).length:=by omega
    obtain ⟨k,hkj⟩:∃ k,kids[j]? = some k:=⟨_,List.getElem?_eq_getElem (by rw [List.length_map] at hjl; exact hjl)⟩
    have her:=he0.step (Su.step hst S)
    have htr:=ht0.step (Su.step hst S)
    have Mt:=(callsIn_wide (n:=12-1)).2 (meets_any (p:=pg) (l:=lv) j wr her htr (H.bytes hJr hf).1 (H.bytes hJr hs).1 hjl)
    have r0:=Cr1.cell 0
    have r1:=Cr1.cell 1
    have r2:=Cr1.cell 2
    have r3:=Cr1.cell 3
    have s0:=Cr2.cell 0
    have s1:=Cr2.cell 1
    have hil:(j:Int) < (en:Int):=by omega
    have hnext:(kids.take (j+1)).flatMap Sb.prs=(kids.take j).flatMap Sb.prs++k.prs∧ints ((kids.take (j+1)).flatMap Sb.pgs)=ints ((kids.take j).flatMap Sb.pgs)++ints k.pgs:=by
     rw [List.take_add_one,hkj,List.flatMap_append,List.flatMap_append,ints_append]
     simp
    by_cases hmt:meetsB (kids.map kidE) toZ j f t=true
    ·rw [hmt] at Mt
     obtain ⟨ces,cpg,g1,g2,g3,g4,g5,g6,g7,g8,g9,g10⟩:=kid_facts hk hr hu hkj
     have HA:=Lib.hid (anZ hst (anZ hJr (anZ hw (anZ her (anZ htr (anZ Cr1 (anZ Cr2 hnext)))))))
     have HB:=Lib.hid (anZ g1 (anZ g2 (anZ g3 (anZ g4 (anZ g5 (anZ g6 (anZ g7 (anZ g8 (anZ g9 g10)))))))))
     have HJ:=Lib.hid (anZ hkj hjl)
     clear hst hJr hw her htr Cr1 Cr2 hnext g1 g2 g3 g4 g5 g6 g7 g8 g9 g10 hkj hmt hjl C1 C2 hbase st0 he0 ht0 hen htn hlv hk hr hu hl hM hok
     gi_wp2_with fail
     refine ⟨trivial,Mt.mono ?_⟩
     rintro e w5 ⟨rfl,hb5⟩
     clear Mt r0 r1 r2 r3 s0 s1
     obtain ⟨hst,hJr,hw,her,htr,Cr1,Cr2,hnext⟩:=HA.out
     obtain ⟨g1,g2,g3,g4,g5,g6,g7,g8,g9,g10⟩:=HB.out
     obtain ⟨hkj,hjl⟩:=HJ.out
     obtain ⟨hk,hr,hu,hl,hM,hok⟩:=HK.out
     obtain ⟨C1,C2,hbase,st0,he0,ht0,hen,htn,hlv⟩:=HC.out
     have hbr:=H.base hJr
     have CH:=(callsIn_wide (n:=12-1)).2 (child_any (p:=pg) (tv:=.slice ta tn tc) (i:=j) (l:=l) (a:=kidE k) (lv:=lv) w5 (by rw [hlv]; omega) ((H.tree hJr hT).below hb5) ho (her.step (Step.of_below hb5 _)) (htr.step (Step.of_below hb5 _)) g6 g5 (by omega) g1 g2 g7 g8)
     have Q1:=Cr1.below hb5 Cr1.lt
     have r0:=Q1.cell 0
     have r1:=Q1.cell 1
     have r2:=Q1.cell 2
     have r3:=Q1.cell 3
     clear hst hJr hw her htr Cr1 Cr2 hnext g1 g2 g3 g4 g5 g6 g7 g8 g9 g10 hkj hjl C1 C2 hbase st0 he0 ht0 hen htn hlv hk hr hu hl hM hok Q1 hbr
     gi_wp2_with fail
     refine ⟨trivial,CH.mono ?_⟩
     rintro e w6 ⟨v,rfl,hv6,hb6⟩
     clear CH r0 r1 r2 r3
     obtain ⟨ca,cc,da,dc,rfl,hce,hcd⟩:=hv6
     simp only at hce hcd
     obtain ⟨hst,hJr,hw,her,htr,Cr1,Cr2,hnext⟩:=HA.out
     obtain ⟨g1,g2,g3,g4,g5,g6,g7,g8,g9,g10⟩:=HB.out
     obtain ⟨hkj,hjl⟩:=HJ.out
     obtain ⟨hk,hr,hu,hl,hM,hok⟩:=HK.out
     have hb56:=hb5.trans (hb6.mono hb5.size)
     obtain ⟨cn,hcn⟩:∃ cn,cn=ces.length:=⟨_,rfl⟩
     obtain ⟨dn,hdn⟩:∃ dn,dn=(endK (kids.map kidE) toZ j).length:=⟨_,rfl⟩
     rw [← hcn] at hce
     rw [← hdn] at hcd
     have hb7:Below wr.heap.size wr (w6.alloc (.cells #[.int .i64 ((kidE k).page:Int), .int .i64 (l:Int), .slice ca cn cc, .slice da dn dc] 179)):=hb56.alloc hb56.size _
     have hb67:Below w6.heap.size w6 (w6.alloc (.cells #[.int .i64 ((kidE k).page:Int), .int .i64 (l:Int), .slice ca cn cc, .slice da dn dc] 179)):=(Below.refl _ _).alloc (Nat.le_refl _) _
     have Q2:=Cr2.below hb7 Cr2.lt
     have s0:=Q2.cell 0
     have s1:=Q2.cell 1
     have hlen:((kids.take j).flatMap Sb.pgs).length+k.pgs.length≤(kids.flatMap Sb.pgs).length:=by
      have h1:kids=kids.take (j+1)++kids.drop (j+1):=(List.take_append_drop _ _).symm
      rw [List.take_add_one,hkj] at h1
      have h2:=congrArg (fun l=>(l.flatMap Sb.pgs).length) h1
      simp only [List.flatMap_append,List.length_append,Option.toList_some,List.flatMap_cons,List.flatMap_nil,List.append_nil] at h2
      omega
     have hkp:k.pgs.length=cpg.length+1:=by rw [g4]; rfl
     have V:=(callsIn_wide (n:=12-1)).2 (ih (pg:=((kidE k).page:Int)) (es:=ces) (toZ:=endK (kids.map kidE) toZ j) (prs:=k.prs) (gs:=cpg) (acc:=acc++(⟨pg,l+1,kids.map kidE,toZ⟩::ns)) (v:=ndv ((kidE k).page:Int) (l:Int) (.slice ca cn cc) (.slice da dn dc)) (by omega) g1 g3 g9 g10 (H.below hJr hb7)
      (Nv.of (n:=⟨((kidE k).page:Int),l,ces,endK (kids.map kidE) toZ j⟩) (hce.step (Step.of_below hb67 _)) (hcd.step (Step.of_below hb67 _))) (by
       have:=hw.ln
       rw [ints_length] at this
       rw [List.length_append,List.length_cons]
       omega))
     have HV:=Lib.hid (anZ hb7 (anZ hw (anZ hnext (anZ g4 hst))))
     clear hst hJr hw her htr Cr1 Cr2 hnext g1 g2 g3 g4 g5 g6 g7 g8 g9 g10 hkj hjl hk hr hu hl hM hok hb56 hb7 hb67 Q2 hlen hkp hce hcd hb5 hb6
     rw [← hcn, ← hdn]
     clear hcn hdn
     gi_wp2_with fail
     refine ⟨trivial,V.mono ?_⟩
     rintro e w8 ⟨rfl,C8,F8,ns8,st8,J8,hw8⟩
     clear V s0 s1
     obtain ⟨hb7,hw,hnext,g4,hst⟩:=HV.out
     have hw9:=hw.append hw8
     rw [show (((kidE k).page:Int)::ints cpg)=ints k.pgs by rw [g4]; rfl, ← hnext.1, ← hnext.2] at hw9
     rw [List.append_assoc,List.cons_append] at J8
     have H9:=Lib.hid (anZ ((hst.bel hb7).trans st8) (anZ J8 hw9))
     clear hb7 hw hnext g4 hst st8 J8 hw8 hw9 HV HA HB HJ HC HK HR
     gi_wp2
     go_roundw
     case rel=>exact ⟨j+1,C8,F8,ns++ns8,by omega,by go_num,H9.out.1,H9.out.2.1,H9.out.2.2⟩
     case measure=>simp [intOf]; omega
    ·have hmf:meetsB (kids.map kidE) toZ j f t=false:=by simpa using hmt
     rw [hmf] at Mt
     have hsk:=skip_none hk hr hu hkj hmf
     have hwn:=hw.append (WentT.skip hsk (meets_some hjl hmf) (ints k.pgs))
     rw [List.append_nil, ← hnext.1, ← hnext.2] at hwn
     have HA:=Lib.hid (anZ hst (anZ hJr hwn))
     clear hst hJr hw her htr Cr1 Cr2 hnext hkj hmt hmf hjl C1 C2 hbase st0 he0 ht0 hen htn hlv hk hr hu hl hM hok hsk hwn
     gi_wp2_with fail
     refine ⟨trivial,Mt.mono ?_⟩
     rintro e w5 ⟨rfl,hb5⟩
     clear Mt r0 r1 r2 r3 s0 s1
     gi_wp2
     go_roundw
     case rel=>exact ⟨j+1,C',F',ns,by omega,by go_num,HA.out.1.bel hb5,H.below HA.out.2.1 hb5,HA.out.2.2⟩
     case measure=>simp [intOf]; omega
   ·obtain rfl:j=en:=by omega
    rw [List.take_of_length_le (by rw [hen,List.length_map]; exact Nat.le_refl _)] at hw
    have hwf:=(WentT.inner (l:=l) (es:=kids.map kidE) (pg:=pg) (toZ:=toZ) f t).append hw
    have HA:=Lib.hid (anZ (st0.trans hst) (anZ hJr hwf))
    have hil:¬ (j:Int) < (j:Int):=by omega
    clear hst hJr hw hwf C1 C2 hbase st0 he0 ht0 hen htn hlv hk hr hu hl hM hok
    gi_wp2
    go_ret
    exact ⟨rfl,C',F',_,HA.out.1,HA.out.2.1,HA.out.2.2⟩
end
end Go.Proofs.YtgkofgifoiinkaaGreat
namespace Go.Proofs.YtgkofgifoiinkaaGreat
open Go.RowKit
attribute [local go_sem] Oper.semAt_some
set_option maxHeartbeats 1000000 in
theorem read_page {tb db pb fr:Nat} {D:Dv} {ps:List Pg} {S:Nat→Prop} {l k:Nat} {ces:List En} (w:World) (h:TrS w tb db pb fr D ps S) (ho:D.on=true) (hk:k < ps.length) (hl:l≤4096)
  (hok:NdOk ps.length l ces) (hB:blkOf D fr k=sealL 3 (bodyL l ces)) :
  Calls Tryz.prog 145 #[ptr tb, .int .i64 (k:Int)] w fun e w'=>∃ v,e = .returned (.tuple #[v,err 0])∧Nv w' S v ⟨k,l,ces,[]⟩∧Below w.heap.size w w':=by
 refine (tread_any w h ho k hk).mono ?_
 rintro e w1 ⟨nv,r,rfl,hs,hn,hb1⟩
 rw [hB] at hs
 obtain rfl:=says_seal hok.may (fun e he=>(hok.1.2.2.2 e he).2.2.2) hok.1.2.1 (by omega) hs
 exact ⟨nv,rfl,hn,hb1⟩
theorem nodes_any (tb:Nat) (root:Int) (fv tv:Value) (w:World):Calls Tryz.prog 117 #[ptr tb, .int .i64 root,spv fv tv] w fun e w' =>
  e = .returned (.func (.func 144) #[] #[.pointer (some ⟨w.heap.size+1,0,none⟩), .pointer (some ⟨w.heap.size,0,none⟩), .pointer (some ⟨w.heap.size+2,0,none⟩)]) ∧
  w'=((w.alloc (.cells #[ptr tb] 86)).alloc (.cells #[.int .i64 root] 3)).alloc (.cells #[fv,tv] 176):=by
 go_enter Tryz.func117,Tryz.ntmps117
 go_wp2
 go_ret
 exact ⟨rfl,rfl⟩
def Gone (J:List Nd→World→(Nat→Prop)→(Nat→Prop)→Prop) (f t:Bytes) (acc:List Nd) (prs:List Pr) (pgs:List Int) (W:World) (F:Nat→Prop) (e:Ending) (W':World):Prop :=
 (∃ r,e = .returned r)∧∃ C' F' ns,Step F W W' F'∧J (acc++ns) W' C' F'∧WentT f t ns prs pgs
section
variable {w:World} {J:List Nd→World→(Nat→Prop)→(Nat→Prop)→Prop} {tb db pb fr M L:Nat} {D:Dv} {ps:List Pg} {S:Nat→Prop} {fv tv:Value} {f t:Bytes}
set_option maxRecDepth 100000 in
set_option maxHeartbeats 4000000 in
theorem nodes1_any (H:HoldsT w J) (hT:TrS w tb db pb fr D ps S) (ho:D.on=true) (hf:Bsf w S fv f) (hs:Bsf w S tv t) (hY:TakesN J S M L) {root:Int} {prs:List Pr} {pgs:List Nat} {acc:List Nd} {W:World} {C F:Nat→Prop} {rb bb sb:Nat}
  (hR:Rt (blkOf D fr) ps.length root prs pgs) (hJ:J acc W C F) (c1:W.cell? ⟨rb,0,none⟩=some (.int .i64 root)) (c2:W.cell? ⟨bb,0,none⟩=some (ptr tb)) (c3:W.cell? ⟨sb,0,none⟩=some fv) (c4:W.cell? ⟨sb,1,none⟩=some tv) (hM:acc.length+pgs.length≤M) :
  Calls Tryz.prog 144 #[.func (.yield L) #[] #[], .pointer (some ⟨rb,0,none⟩), .pointer (some ⟨bb,0,none⟩), .pointer (some ⟨sb,0,none⟩)] W (Gone J f t acc prs (ints pgs) W F):=by
 have h11:1≤12-1:=by decide
 rcases hR.at_ with ⟨rfl,rfl,rfl⟩ | ⟨l,k,hk,rfl,rfl,rfl,hl⟩
 ·have HA:=Lib.hid (anZ (Step.refl F W) hJ)
  clear hJ hR hM hT hf hs
  refine (callsIn_wide (n:=12)).1 (callsIn_of_wp Tryz.func144 rfl trivial ?_)
  simp only [Tryz.ntmps144,List.size_toArray,List.length_cons,List.length_nil,Nat.reduceAdd,Nat.reduceSub,Array.replicate_succ,Array.replicate_zero,List.push_toArray,List.append_toArray,List.nil_append,List.cons_append]
  gi_wp2
  go_end0
  exact ⟨⟨_,rfl⟩,C,F,[],HA.out.1,by rw [List.append_nil]; exact HA.out.2,WentT.nil f t⟩
 ·obtain ⟨ces,cpg,g1,g2,g3,g4,g5,g6⟩:=hk
  have RD:=(callsIn_wide (n:=12-1)).2 (read_page W (H.tree hJ hT) ho g6 hl g1 g2)
  have hne:(((k.page:Nat):Int) == -1)=false:=by rw [beq_eq_false_iff_ne]; omega
  have hrise:=hR.rise
  have HA:=Lib.hid (anZ hJ (anZ hM (anZ hT (anZ hf (anZ hs (anZ hl hrise))))))
  have HB:=Lib.hid (anZ g1 (anZ g3 (anZ g4 (anZ c2 (anZ c3 c4)))))
  clear hJ hM hT hf hs hl hR g1 g2 g3 g4 g5 g6 hrise
  refine (callsIn_wide (n:=12)).1 (callsIn_of_wp Tryz.func144 rfl trivial ?_)
  simp only [Tryz.ntmps144,List.size_toArray,List.length_cons,List.length_nil,Nat.reduceAdd,Nat.reduceSub,Array.replicate_succ,Array.replicate_zero,List.push_toArray,List.append_toArray,List.nil_append,List.cons_append]
  gi_wp2_with fail
  refine ⟨trivial,RD.mono ?_⟩
  rintro e w6 ⟨v,rfl,hv6,hb6⟩
  clear RD c1 c2 c3 c4
  obtain ⟨ca,cc,da,dc,rfl,hce,hcd⟩:=hv6
  simp only [List.length_nil] at hce hcd ⊢
  obtain ⟨hJ,hM,hT,hf,hs,hl,hrise⟩:=HA.out
  obtain ⟨g1,g3,g4,c2,c3,c4⟩:=HB.out
  obtain ⟨cn,hcn⟩:∃ cn,cn=ces.length:=⟨_,rfl⟩
  rw [← hcn] at hce
  have hb7:Below W.heap.size W (w6.alloc (.cells #[.int .i64 (k.page:Int), .int .i64 (l:Int), .slice ca cn cc, .slice da 0 dc] 179)):=hb6.alloc hb6.size _
  have hb67:Below w6.heap.size w6 (w6.alloc (.cells #[.int .i64 (k.page:Int), .int .i64 (l:Int), .slice ca cn cc, .slice da 0 dc] 179)):=(Below.refl _ _).alloc (Nat.le_refl _) _
  have k2:=(hb7.cell (p:=⟨bb,0,none⟩) (World.block_lt_of_cell? _ _ c2)).trans c2
  have k3:=(hb7.cell (p:=⟨sb,0,none⟩) (World.block_lt_of_cell? _ _ c3)).trans c3
  have k4:=(hb7.cell (p:=⟨sb,1,none⟩) (World.block_lt_of_cell? _ _ c4)).trans c4
  have V:=(callsIn_wide (n:=12-1)).2 (visit_any H hT ho hf hs hY l (pg:=(k.page:Int)) (es:=ces) (toZ:=[]) (prs:=k.prs) (gs:=cpg) (acc:=acc) (v:=ndv (k.page:Int) (l:Int) (.slice ca cn cc) (.slice da 0 dc)) hl g1 g3 hrise (.inl rfl) (H.below hJ hb7)
   (Nv.of (n:=⟨(k.page:Int),l,ces,[]⟩) (hce.step (Step.of_below hb67 _)) (hcd.step (Step.of_below hb67 _))) (by rw [g4,List.length_cons] at hM; omega))
  have HV:=Lib.hid (anZ hb7 g4)
  clear hJ hM hT hf hs hl hrise g1 g3 g4 c2 c3 c4 hb7 hb67 hce hcd hb6
  rw [← hcn]
  clear hcn
  gi_wp2_with fail
  refine ⟨trivial,V.mono ?_⟩
  rintro e w8 ⟨rfl,C8,F8,ns8,st8,J8,hw8⟩
  clear V k2 k3 k4
  have H9:=Lib.hid (anZ ((Step.of_below HV.out.1 F).trans st8) (anZ J8 hw8))
  have h4:=Lib.hid HV.out.2
  clear st8 J8 hw8 HV HA HB
  gi_wp2
  go_end0
  refine ⟨⟨_,rfl⟩,C8,F8,ns8,H9.out.1,H9.out.2.1,?_⟩
  rw [h4.out]
  exact H9.out.2.2
end
end Go.Proofs.YtgkofgifoiinkaaGreat
