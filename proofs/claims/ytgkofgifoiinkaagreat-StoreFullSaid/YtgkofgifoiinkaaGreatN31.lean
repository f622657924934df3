/- May writes be a commit? The walk of mayCommit; condition: they are few. -/
import Derived.Test.YtgkofgifoiinkaaGreatN30
import Derived.Test.YtgkofgifoiinkaaGreatN19
import Derived.Test.YtgkofgifoiinkaaGreatN17
import Derived.Sort.OwnSorted
import Derived.Shelf.SortM.Plain
import Derived.Shelf.SortM.SortNone
import Derived.Ground.SlgmProg
import Derived.Test.YtgkofgifoiinkaaGreatProg
namespace Go.Proofs.YtgkofgifoiinkaaGreat
open Go.RowKit
def PgOk (ps:List Pg) (N:Nat) (pgs:List Nat):Prop:=ps.length=N∧∀ k,k < N→ps[k]? = some (if k∈pgs then (true,true) else (false,false))
def dropN (ps:List Pg) (r:Nat):List Pg:=(ps.take r).map (fun x=>(x.1,false))++ps.drop r
section
variable {ps:List Pg} {N r:Nat} {pgs pgs':List Nat}
theorem dropN_get (hr:r≤ps.length) (q:Nat):(dropN ps r)[q]? = if q < r then (ps[q]?).map (fun x=>(x.1,false)) else ps[q]?:=by
 unfold dropN
 by_cases h:q < r
 ·rw [if_pos h,List.getElem?_append_left (by simp; omega),List.getElem?_map,List.getElem?_take_of_lt h]
 ·rw [if_neg h,List.getElem?_append_right (by simp; omega),List.getElem?_drop]
  congr 1
  simp
  omega
theorem dropN_length (ps:List Pg) (r:Nat):(dropN ps r).length=ps.length:=by
 unfold dropN
 simp
 omega
theorem dropN_succ (h:r < ps.length):rdone (dropN ps r) (r:Int)=dropN ps (r+1):=by
 apply List.ext_getElem?
 intro q
 rw [rdone_get,dropN_get (by omega),dropN_get (by omega)]
 by_cases h1:q=r
 ·rw [if_pos h1,if_neg (by omega),if_pos (by omega)]
 ·rw [if_neg h1]
  by_cases h2:q < r
  ·rw [if_pos h2,if_pos (by omega)]
  ·rw [if_neg h2,if_neg (by omega)]
theorem PgOk.drop (h:PgOk ps N pgs):∀ k,k < N→(dropN ps N)[k]? = some (if k∈pgs then (true,false) else (false,false)):=fun k hk=>by
 rw [dropN_get (by rw [h.1]; exact Nat.le_refl _),if_pos hk,h.2 k hk]
 split <;> rfl
theorem countP_part (p q:Nat→Bool):∀ l:List Nat,l.countP p≤l.countP (fun k=>p k && q k)+l.countP (fun k => !q k)
 | []=>by simp
 | a::l=>by
  have:=countP_part p q l
  simp only [List.countP_cons]
  cases p a <;> cases q a <;> simp <;> omega
theorem count_one (x:Nat):∀ N:Nat,(List.range N).countP (fun k=>k == x)≤1∧(N≤x→(List.range N).countP (fun k=>k == x)=0)
 | 0=>by simp
 | N+1=>by
  obtain ⟨h1,h2⟩:=count_one x N
  rw [List.range_succ,List.countP_append]
  simp only [List.countP_cons,List.countP_nil]
  by_cases h:N=x
  ·have:=h2 (by omega)
   subst h
   simp only [beq_self_eq_true,if_true]
   omega
  ·have hne:(N == x)=false:=by simpa using h
   rw [hne]
   simp only [Bool.false_eq_true,if_false]
   exact ⟨by omega,fun hx=>by have:=h2 (by omega); omega⟩
theorem count_out (N:Nat):∀ pgs:List Nat,N≤(List.range N).countP (fun k=>decide (k ∉ pgs))+pgs.length
 | []=>by simp
 | x::r=>by
  have h1:=count_out N r
  have h2:=countP_part (fun k=>decide (k ∉ r)) (fun k => !(k == x)) (List.range N)
  have h3:=(count_one x N).1
  have e1:(fun k=>decide (k ∉ x::r))=fun k=>decide (k ∉ r) && !(k == x):=by
   funext k
   by_cases ha:k=x <;> by_cases hb:k∈r <;> simp [ha,hb]
  have e2:(fun k => !(!(k == x)))=fun k:Nat=>k == x:=by funext k; simp
  rw [e1,List.length_cons]
  rw [e2] at h2
  omega
theorem PgOk.free (h:PgOk ps N pgs):N≤freeP (dropN ps N)+pgs.length:=by
 have e:dropN ps N=(List.range N).map fun k=>if k∈pgs then (true,false) else (false,false):=by
  apply List.ext_getElem?
  intro q
  rcases Nat.lt_or_ge q N with hq | hq
  ·rw [h.drop q hq,List.getElem?_map,List.getElem?_range hq]
   rfl
  ·rw [List.getElem?_eq_none (by rw [dropN_length,h.1]; exact hq),List.getElem?_eq_none (by simpa using hq)]
 have h1:=count_out N pgs
 unfold freeP
 rw [e,List.countP_map]
 have e2:((fun x:Pg=>pnum x == 0) ∘ fun k=>if k∈pgs then (true,false) else (false,false))=fun k=>decide (k ∉ pgs):=by
  funext k
  by_cases hk:k∈pgs <;> simp [hk,pnum]
 rw [e2]
 exact h1
theorem PgOk.taken (h:PgOk ps N pgs) {i:Nat} (hf:∀ j,j < i→leastFree (tdones j (dropN ps N))≠none):(placeT (dropN ps N) i).Nodup∧∀ t∈placeT (dropN ps N) i,t < N∧t ∉ pgs:=by
 obtain ⟨h1,h2⟩:=placeT_free hf
 refine ⟨h1,fun t ht=>?_⟩
 have hl:=placeT_lt hf ht
 rw [dropN_length,h.1] at hl
 refine ⟨hl,fun hm=>?_⟩
 have h3:=h2 t ht
 rw [h.drop t hl,if_pos hm] at h3
 cases h3
theorem PgOk.settles (h:PgOk ps N pgs) {i:Nat} (hf:∀ j,j < i→leastFree (tdones j (dropN ps N))≠none) (hp:pgs'.Perm (placeT (dropN ps N) i)):PgOk (settledP (tdones i (dropN ps N))) N pgs':=by
 refine ⟨by unfold settledP; rw [List.length_map,tdones_length,dropN_length,h.1],fun k hk=>?_⟩
 unfold settledP
 rw [List.getElem?_map,tdones_get _ i hf k]
 by_cases hm:k∈placeT (dropN ps N) i
 ·rw [if_pos hm,if_pos (hp.mem_iff.2 hm)]
  rfl
 ·rw [if_neg hm,if_neg (fun hx=>hm (hp.mem_iff.1 hx)),h.drop k hk]
  split <;> rfl
end
theorem swrites_ends {fr:Nat}:∀ {D:Dv} (l:List (Nat × Bytes)),D.on=true→(∀ p∈l,fr+p.1 < D.bk.length∧p.2.length=512) →
  ((writesP fr D l).2=0∧(writesP fr D l).1.on=true∧(D.left < 0→(writesP fr D l).1.left < 0))∨((writesP fr D l).2=8∧(writesP fr D l).1.on=false∧¬ D.left < 0)
 | D,[],h1,_=>.inl ⟨rfl,h1,fun h=>h⟩
 | D,(t,b)::r,h1,h3=>by
  have h4:=h3 (t,b) List.mem_cons_self
  have hns:¬ noSuch D ((fr+t:Nat):Int) b:=by unfold noSuch; simp only at h4; omega
  have hon:¬ D.on=false:=by rw [h1]; simp
  unfold writesP
  by_cases hz:D.left=0
  ·have hc:wcode D ((fr+t:Nat):Int) b=8:=by unfold wcode; rw [if_neg hon,if_neg hns,if_pos hz]
   have hd:wdev D ((fr+t:Nat):Int) b=⟨D.bk,false,D.left⟩:=by unfold wdev; rw [if_neg hon,if_neg hns,if_pos hz]
   rw [hc,hd,if_neg (by decide)]
   exact .inr ⟨rfl,rfl,by omega⟩
  ·have hc:wcode D ((fr+t:Nat):Int) b=0:=by unfold wcode; rw [if_neg hon,if_neg hns,if_neg hz]
   rw [hc,if_pos rfl,wdev_zero hc]
   have e:(spent D.left < 0)↔D.left < 0:=by unfold spent; split <;> omega
   rcases swrites_ends (D:=⟨wrote D.bk (fr+t) b,D.on,spent D.left⟩) r h1 (fun p hp=>by
    have h5:=h3 p (List.mem_cons_of_mem _ hp)
    simp only [wrote_length]
    exact h5) with ⟨k1,k2,k3⟩ | ⟨k1,k2,k3⟩
   ·exact .inl ⟨k1,k2,fun h=>k3 (e.2 h)⟩
   ·exact .inr ⟨k1,k2,fun h=>k3 (e.2 h)⟩
section
variable {D D1:Dv} {g a s n m i:Nat} {pg pg':Int} {P0 P:List Pr} {pgs pgs':List Nat} {C:List (List Wr)} {ps:List Pg} {BL:List Bytes}
theorem disk_built (h:Disk D.bk g pg a s P0 pgs C P) (ho:D.on=true) (hu:Upto D n) (hp:PgOk ps (D.bk.length-362) pgs) (hf:∀ j,j < i→leastFree (tdones j (dropN ps (D.bk.length-362)))≠none) (hb:BL.length=i) (h512:∀ b∈BL,b.length=512)
  (ht:Rt (ovr (blkOf D 362) ((placeT (dropN ps (D.bk.length-362)) i).zip BL)) (D.bk.length-362) pg' P pgs') :
  ((writesP 362 D ((placeT (dropN ps (D.bk.length-362)) i).zip BL)).2=0∧(writesP 362 D ((placeT (dropN ps (D.bk.length-362)) i).zip BL)).1.on=true∧(D.left < 0→(writesP 362 D ((placeT (dropN ps (D.bk.length-362)) i).zip BL)).1.left < 0) ∧
   Upto (writesP 362 D ((placeT (dropN ps (D.bk.length-362)) i).zip BL)).1 (n+i)∧Apart (Spare pgs) D.bk (writesP 362 D ((placeT (dropN ps (D.bk.length-362)) i).zip BL)).1.bk∧Rt (blkOf (writesP 362 D ((placeT (dropN ps (D.bk.length-362)) i).zip BL)).1 362) (D.bk.length-362) pg' P pgs') ∨
  ((writesP 362 D ((placeT (dropN ps (D.bk.length-362)) i).zip BL)).2=8∧¬ D.left < 0∧Gone2 (writesP 362 D ((placeT (dropN ps (D.bk.length-362)) i).zip BL)).1 P P (n+i) (max g (s+C.length))):=by
 have hlen:=h.len
 obtain ⟨hnd,htk⟩:=hp.taken hf
 have hpl:=placeT_length (dropN ps (D.bk.length-362)) i
 generalize hT:placeT (dropN ps (D.bk.length-362)) i=T at *
 have hin:∀ p∈T.zip BL,362+p.1 < D.bk.length∧p.2.length=512:=fun p hpm=>by
  have h1:=List.of_mem_zip hpm
  have h2:=(htk p.1 h1.1).1
  exact ⟨by omega,h512 _ h1.2⟩
 have hA:Apart (Spare pgs) D.bk (writesP 362 D (T.zip BL)).1.bk:=(apart_writes 362 D (T.zip BL)).mono fun q ⟨p,hpm,e⟩=>⟨p.1,e,(htk p.1 (List.of_mem_zip hpm).1).2⟩
 have hzl:(T.zip BL).length=i:=by simp [hb,hpl]
 have hup:=writesP_upto 362 (T.zip BL) hu
 rw [hzl] at hup
 rcases swrites_ends (T.zip BL) ho hin with ⟨k1,k2,k3⟩ | ⟨k1,k2,k3⟩
 ·left
  refine ⟨k1,k2,k3,hup.1,hA,?_⟩
  rw [(blk_writes (T.zip BL) k1).1]
  exact ht
 ·right
  exact ⟨k1,k3,h.lost hA k2 hup.1⟩
theorem disk_sure (h:Disk D.bk g pg a s P0 pgs C P) (ho:D1.on=true) (hu:Upto D1 n) (hA:Apart (Spare pgs) D.bk D1.bk) (ht:Rt (blkOf D1 362) (D.bk.length-362) pg' P pgs') :
  (fcode D1=0∧(fdev D1).on=true∧(D1.left < 0→(fdev D1).left < 0)∧Upto (fdev D1) (n+1)∧Apart (Spare pgs) D.bk (fdev D1).bk∧Clean (fdev D1).bk∧Disk (fdev D1).bk g pg a s P0 pgs C P∧Rt (blkOf (fdev D1) 362) ((fdev D1).bk.length-362) pg' P pgs') ∨
  (fcode D1=8∧¬ D1.left < 0∧Gone2 (fdev D1) P P (n+1) (max g (s+C.length))):=by
 have hup:=(fdev_upto hu).1
 have hon:¬ D1.on=false:=by rw [ho]; simp
 by_cases hz:D1.left=0
 ·right
  have hc:fcode D1=8:=by unfold fcode; rw [if_neg hon,if_pos hz]
  have hd:fdev D1=⟨D1.bk,false,D1.left⟩:=by unfold fdev; rw [if_neg hon,if_pos hz]
  refine ⟨hc,by omega,?_⟩
  rw [hd] at hup ⊢
  exact h.lost hA rfl hup
 ·left
  have hc:fcode D1=0:=by unfold fcode; rw [if_neg hon,if_neg hz]
  have hd:fdev D1=⟨flushed D1.bk,D1.on,spent D1.left⟩:=by unfold fdev; rw [if_neg hon,if_neg hz]
  have hA2:Apart (Spare pgs) D.bk (flushed D1.bk):=hA.trans (apart_flushed _)
  have hcl:Clean (flushed D1.bk):=clean_flushed _
  rw [hd] at hup ⊢
  refine ⟨hc,ho,fun hl=>?_,hup,hA2,hcl,h.spare hA2 hcl,?_⟩
  ·simp only
   unfold spent
   split <;> omega
  ·simp only
   rw [hA2.len]
   refine ht.congr fun q _=>?_
   exact stands_flushed 362 q
end
end Go.Proofs.YtgkofgifoiinkaaGreat
namespace Go.Proofs.YtgkofgifoiinkaaGreat
open Go.RowKit Go.Maps Go.Sort
theorem sbytesLess_cmp:∀ l m:Bytes,Op.bytesLess l m=decide (cmp l m < 0):=by
 intro l
 induction l with
 | nil=>intro m; cases m <;> rfl
 | cons a l ih =>
  intro m
  cases m with
  | nil=>rfl
  | cons b m =>
   unfold cmp at *
   rw [Op.bytesLess,Lib.compareBytes,ih]
   by_cases h1:a < b
   ·simp [h1]
   ·by_cases h2:b < a
    ·have:a≠b:=fun e=>h1 (e ▸ h2)
     simp [h1,h2,this]
    ·have:a=b:=UInt8.le_antisymm (by simpa using h2) (by simpa using h1)
     simp [this]
theorem shasB_eq (k f t:Bytes):hasB k f t=(!decide (cmp k f < 0) && (decide (t.length=0) || decide (cmp k t < 0))):=by
 unfold hasB aheadB
 congr 1
 by_cases h:cmp k f < 0
 ·rw [decide_eq_true h,decide_eq_false (by omega)]; rfl
 ·rw [decide_eq_false h,decide_eq_true (by omega)]; rfl
theorem cmp_le:∀ {a b:Bytes},cmp a b < 0→a≤b
 | [],_,_=>List.nil_le _
 | a::l,[],h=>by unfold cmp at h; rw [Lib.compareBytes] at h; omega
 | a::l,b::m,h=>by
  unfold cmp at h
  rw [Lib.compareBytes] at h
  by_cases h1:a < b
  ·exact List.le_of_lt (List.cons_lt_cons_iff.2 (.inl h1))
  ·rw [if_neg h1] at h
   by_cases h2:b < a
   ·rw [if_pos h2] at h; omega
   ·rw [if_neg h2] at h
    have e:a=b:=UInt8.le_antisymm (by simpa using h2) (by simpa using h1)
    subst e
    exact List.cons_le_cons_iff.2 (.inr ⟨rfl,cmp_le h⟩)
theorem keys_sorted {P:List Pr} (hr:RiseP P) {ss:List Bytes} (hp:ss.Perm (P.map Prod.fst)):ss.mergeSort (fun x y=>decide (x≤y))=P.map Prod.fst:=by
 rw [mergeSort_of_perm hp]
 refine List.mergeSort_of_pairwise ?_
 rw [List.pairwise_map]
 exact hr.imp fun h=>by simpa using cmp_le h
def CollF (D0:DataW Unit) (left:Lit→Bool) (f:Bytes→Bool) (ss:List Bytes):Prop:=ss.Nodup∧∀ x,x∈ss↔(Maps.has D0 (.string x)=true∧left (.string x)=false∧f x=true)
section
variable {D0:DataW Unit} {left:Lit→Bool} {f:Bytes→Bool} {ss:List Bytes} {x:Bytes} {y:DataW Unit}
theorem CollF.start (D0:DataW Unit) (f:Bytes→Bool):CollF D0 (Maps.has D0) f []:=⟨List.nodup_nil,fun x=>by cases Maps.has D0 (.string x) <;> simp⟩
theorem CollF.yes (h:CollF D0 left f ss) (hlk:left (.string x)=true) (hat:∀ zd,D0.atKey (.string x) zd=y) (hf:f x=true):CollF D0 (fun z=>left z && !z.sameKey (.string x)) f (ss++[x]):=by
 have hhas:Maps.has D0 (.string x)=true:=has_true_of_atKey hat
 have hnew:x ∉ ss:=fun hx=>by have:=((h.2 x).1 hx).2.1; rw [hlk] at this; cases this
 refine ⟨List.nodup_append.2 ⟨h.1,by simp,fun a ha b hb=>by simp at hb; subst hb; exact fun e=>hnew (e ▸ ha)⟩,fun z=>?_⟩
 by_cases hz:z=x
 ·subst hz; simp [hhas,Lit.sameKey,hf]
 ·simp [h.2 z,hz,Lit.sameKey]
theorem CollF.no (h:CollF D0 left f ss) (hlk:left (.string x)=true) (hf:f x=false):CollF D0 (fun z=>left z && !z.sameKey (.string x)) f ss:=by
 refine ⟨h.1,fun z=>?_⟩
 by_cases hz:z=x
 ·subst hz
  rw [h.2 z,hlk,hf]
  simp
 ·simp [h.2 z,hz,Lit.sameKey]
theorem CollF.perm (h:CollF D0 left f ss) {P:List Pr} (hi:MapIs D0 P) (hr:RiseP P) (hl:∀ kl,left kl=false):ss.Perm ((P.filter fun p=>f p.1).map Prod.fst):=by
 refine (List.perm_ext_iff_of_nodup h.1 (rise_nodup (hr.filter _))).2 fun z=>?_
 rw [h.2 z,hi.has,hl,lookP_mem,List.mem_map,List.mem_map]
 constructor
 ·rintro ⟨⟨p,hp,rfl⟩,_,hf⟩
  exact ⟨p,List.mem_filter.2 ⟨hp,hf⟩,rfl⟩
 ·rintro ⟨p,hp,rfl⟩
  obtain ⟨h1,h2⟩:=List.mem_filter.1 hp
  exact ⟨⟨p,h1,rfl⟩,rfl,h2⟩
end
end Go.Proofs.YtgkofgifoiinkaaGreat
namespace Go.Proofs
open Go.Shelf
def Tryz.sortSA_ren:Go.Shelf.Ren:=⟨fun | 6=>94 | 8=>122 | 9=>121 | 19=>160 | 20=>161 | 21=>151 | 22=>152 | 23=>153 | 24=>154 | 25=>155 | 26=>156 | 27=>157 | 28=>158 | 29=>159 | 36=>192 | 31=>193 | 32=>194 | 37=>195 | 38=>196 | 39=>197 | 41=>214 | n=>n,fun | 27=>136 | 29=>9 | 3=>3 | 32=>59 | 26=>136 | 0=>0 | 44=>227 | 46=>73 | 4=>4 | 36=>219 | 35=>218 | 41=>224 | 5=>5 | 9=>9 | 53=>249 | 57=>253 | 63=>265 | 64=>266 | n=>n,fun | n=>n⟩
theorem Tryz.sortSA:Go.Proofs.SlLaysM.n6 Tryz.prog Tryz.sortSA_ren:={
 mixed:=by kernel_rfl
 f6:=⟨Tryz.f94.name,by decide,Tryz.func94.trans (congrArg some (by kernel_rfl))⟩
 f8:=Tryz.func122.trans (congrArg some (by kernel_rfl))
 f9:=⟨Tryz.f121.name,by decide,Tryz.func121.trans (congrArg some (by kernel_rfl))⟩
 f19:=Tryz.func160.trans (congrArg some (by kernel_rfl))
 f20:=Tryz.func161.trans (congrArg some (by kernel_rfl))
 f21:=⟨Tryz.f151.name,by decide,Tryz.func151.trans (congrArg some (by kernel_rfl))⟩
 f22:=⟨Tryz.f152.name,by decide,Tryz.func152.trans (congrArg some (by kernel_rfl))⟩
 f23:=⟨Tryz.f153.name,by decide,Tryz.func153.trans (congrArg some (by kernel_rfl))⟩
 f24:=⟨Tryz.f154.name,by decide,Tryz.func154.trans (congrArg some (by kernel_rfl))⟩
 f25:=⟨Tryz.f155.name,by decide,Tryz.func155.trans (congrArg some (by kernel_rfl))⟩
 f26:=⟨Tryz.f156.name,by decide,Tryz.func156.trans (congrArg some (by kernel_rfl))⟩
 f27:=⟨Tryz.f157.name,by decide,Tryz.func157.trans (congrArg some (by kernel_rfl))⟩
 f28:=⟨Tryz.f158.name,by decide,Tryz.func158.trans (congrArg some (by kernel_rfl))⟩
 f29:=⟨Tryz.f159.name,by decide,Tryz.func159.trans (congrArg some (by kernel_rfl))⟩
 f31:=Tryz.func193.trans (congrArg some (by kernel_rfl))
 f32:=Tryz.func194.trans (congrArg some (by kernel_rfl))
 f36:=⟨Tryz.f192.name,by decide,Tryz.func192.trans (congrArg some (by kernel_rfl))⟩
 f37:=⟨Tryz.f195.name,by decide,Tryz.func195.trans (congrArg some (by kernel_rfl))⟩
 f38:=⟨Tryz.f196.name,by decide,Tryz.func196.trans (congrArg some (by kernel_rfl))⟩
 f39:=⟨Tryz.f197.name,by decide,Tryz.func197.trans (congrArg some (by kernel_rfl))⟩
 f41:=⟨Tryz.f214.name,by decide,Tryz.func214.trans (congrArg some (by kernel_rfl))⟩
 t0:=Tryz.underlying0
 a0:=Tryz.isAgg0
 z0:=Tryz.sizeOf0
 v0:=Tryz.zeroValue0
 t3:=Tryz.underlying3
 a3:=Tryz.isAgg3
 z3:=Tryz.sizeOf3
 v3:=Tryz.zeroValue3
 t4:=Tryz.underlying4
 a4:=Tryz.isAgg4
 z4:=Tryz.sizeOf4
 v4:=Tryz.zeroValue4
 t5:=Tryz.underlying5
 a5:=Tryz.isAgg5
 z5:=Tryz.sizeOf5
 v5:=Tryz.zeroValue5
 t9:=Tryz.underlying9
 a9:=Tryz.isAgg9
 z9:=Tryz.sizeOf9
 v9:=Tryz.zeroValue9
 t26:=Tryz.underlying136
 a26:=Tryz.isAgg136
 z26:=Tryz.sizeOf136
 v26:=Tryz.zeroValue136
 t27:=Tryz.underlying136
 a27:=Tryz.isAgg136
 z27:=Tryz.sizeOf136
 v27:=Tryz.zeroValue136
 t29:=Tryz.underlying9
 a29:=Tryz.isAgg9
 z29:=Tryz.sizeOf9
 v29:=Tryz.zeroValue9
 t32:=Tryz.underlying59
 a32:=Tryz.isAgg59
 z32:=Tryz.sizeOf59
 v32:=Tryz.zeroValue59
 t35:=Tryz.underlying218
 a35:=Tryz.isAgg218
 z35:=Tryz.sizeOf218
 v35:=Tryz.zeroValue218
 t36:=Tryz.underlying219
 a36:=Tryz.isAgg219
 z36:=Tryz.sizeOf219
 v36:=Tryz.zeroValue219
 t41:=Tryz.underlying224
 a41:=Tryz.isAgg224
 z41:=Tryz.sizeOf224
 v41:=Tryz.zeroValue224
 t44:=Tryz.underlying227
 a44:=Tryz.isAgg227
 z44:=Tryz.sizeOf227
 v44:=Tryz.zeroValue227
 t46:=Tryz.underlying73
 a46:=Tryz.isAgg73
 z46:=Tryz.sizeOf73
 v46:=Tryz.zeroValue73
 t53:=Tryz.underlying249
 a53:=Tryz.isAgg249
 z53:=Tryz.sizeOf249
 v53:=Tryz.zeroValue249
 t57:=Tryz.underlying253
 a57:=Tryz.isAgg253
 z57:=Tryz.sizeOf253
 v57:=Tryz.zeroValue253
 t63:=Tryz.underlying265
 a63:=Tryz.isAgg265
 z63:=Tryz.sizeOf265
 v63:=Tryz.zeroValue265
 t64:=Tryz.underlying266
 a64:=Tryz.isAgg266
 z64:=Tryz.sizeOf266
 v64:=Tryz.zeroValue266 }
end Go.Proofs
namespace Go.Proofs.YtgkofgifoiinkaaGreat
open Go.RowKit Go.Maps
theorem room_any (n:Nat) (w:World) (hn:n≤4096):Calls Tryz.prog 28 #[.int .i64 (n:Int)] w fun e w'=>e = .returned (.int .i64 (roomN n:Nat))∧w=w':=by
 by_cases h1:n < 362
 ·have hr:roomN n=0:=by unfold roomN halfN; rw [if_pos (by omega)]
  have h1':(n:Int) < 362:=by omega
  rw [hr]
  clear hr h1
  go_enter Tryz.func28,Tryz.ntmps28
  go_wp2
  go_ret
  exact ⟨rfl,rfl⟩
 ·obtain ⟨m,rfl⟩:∃ m,n=362+m:=⟨n-362,by omega⟩
  have h1':¬ ((362+m:Nat):Int) < 362:=by omega
  have e1:((362+m:Nat):Int)-362=(m:Int):=by omega
  have e2:(m:Int).tdiv 2=((m / 2:Nat):Int):=by rw [Int.tdiv_eq_ediv_of_nonneg (by omega)]; omega
  have hh:halfN (362+m)=m / 2:=by unfold halfN; rw [Nat.add_sub_cancel_left]
  obtain ⟨t,ht⟩:∃ t,t=m / 2:=⟨_,rfl⟩
  rw [← ht] at e2 hh
  have ht2:t≤2000:=by omega
  by_cases h2:t < 40
  ·have hr:roomN (362+m)=0:=by unfold roomN; rw [hh,if_pos h2]
   have h2':(t:Int) < 40:=by omega
   rw [hr]
   clear hr h1 hh h2 ht
   generalize ((362+m:Nat):Int)=z at *
   go_enter Tryz.func28,Tryz.ntmps28
   go_wp2
   go_ret
   exact ⟨rfl,rfl⟩
  ·have hr:((roomN (362+m):Nat):Int)=((t:Int)*4 / 5-1)*251:=by
    unfold roomN
    rw [hh,if_neg h2]
    have:1≤t*4 / 5:=by omega
    omega
   have h2':¬ (t:Int) < 40:=by omega
   have e3:((t:Int)*4).tdiv 5=(t:Int)*4 / 5:=Int.tdiv_eq_ediv_of_nonneg (by omega)
   rw [hr]
   clear hr h1 hh h2 ht
   generalize ((362+m:Nat):Int)=z at *
   go_enter Tryz.func28,Tryz.ntmps28
   go_wp2
   go_ret
   exact ⟨rfl,rfl⟩
section
variable {w:World} {sb g mb:Nat} {dv pv tv jv:Value} {bn:Int} {dead:Bool}
theorem sready_any (h:StC w sb dv pv tv jv g mb bn dead):Calls Tryz.prog 42 #[ptr sb] w fun e w'=>e = .returned (err (if dead=true then 8 else 0))∧w=w':=by
 obtain ⟨_,_,_,_,_,_,_,c7⟩:=h.cells
 clear h
 cases dead
 ·simp only [Bool.false_eq_true,if_false]
  go_enter Tryz.func42,Tryz.ntmps42
  go_wp2
  go_ret
  exact ⟨rfl,rfl⟩
 ·simp only [if_true]
  go_enter Tryz.func42,Tryz.ntmps42
  go_wp2
  go_ret
  exact ⟨rfl,rfl⟩
theorem sturn_any (g:Nat) (w:World):Calls Tryz.prog 35 #[.int .u64 (g:Int)] w fun e w'=>e = .returned (.int .i64 ((g % 2:Nat):Int))∧w=w':=by
 have e1:(g:Int).tmod 2=((g % 2:Nat):Int):=by rw [Int.tmod_eq_emod_of_nonneg (by omega)]; omega
 have e2:IntKind.i64.wrap ((g % 2:Nat):Int)=((g % 2:Nat):Int):=IntWalk.i64_in _ (by omega)
 have e3:(g:Int) % 2=((g % 2:Nat):Int):=by omega
 generalize ((g % 2:Nat):Int)=z at *
 go_enter Tryz.func35,Tryz.ntmps35
 go_wp2
 go_ret
 exact ⟨rfl,rfl⟩
set_option maxHeartbeats 1000000 in
theorem mayWrite_any {kv vv:Value} {x:Wr} (hk:Bs w kv x.key) (hv:Bs w vv x.val):Calls Tryz.prog 84 #[.agg #[kv,vv, .bool x.gone]] w fun e w'=>e = .returned (.bool (decide (WrOk x)))∧Below w.heap.size w w':=by
 have hkl:=hk.len
 have hvl:=hv.len
 obtain ⟨ka,kc,rfl,_⟩:=hk.shape
 obtain ⟨va,vc,rfl,_⟩:=hv.shape
 have hb:Below w.heap.size w (w.alloc (.cells #[.slice ka x.key.length kc, .slice va x.val.length vc, .bool x.gone] 61)):=(Below.refl _ _).alloc (Nat.le_refl _) _
 have C:=Cel.new w #[.slice ka x.key.length kc, .slice va x.val.length vc, .bool x.gone] 61
 obtain ⟨b,hbb⟩:∃ b,b=decide (WrOk x):=⟨_,rfl⟩
 rw [← hbb]
 have hiff:(b=true)↔(((1≤x.key.length∧x.key.length≤32)∧x.val.length≤128)∧(x.gone=true→x.val.length=0)):=by
  rw [hbb,decide_eq_true_iff]
  unfold WrOk
  simp
 have HB:=Lib.hid hb
 clear hk hv hb hbb
 obtain ⟨kn,hkn⟩:∃ kn,kn=x.key.length:=⟨_,rfl⟩
 obtain ⟨vn,hvn⟩:∃ vn,vn=x.val.length:=⟨_,rfl⟩
 obtain ⟨gn,hgn⟩:∃ gn,gn=x.gone:=⟨_,rfl⟩
 rw [← hkn] at hiff C HB hkl
 rw [← hvn] at hiff C HB hvl
 rw [← hgn] at hiff C HB
 rw [← hkn, ← hvn, ← hgn]
 clear hkn hvn hgn
 have k0:=C.cell 0
 have k1:=C.cell 1
 have k2:=C.cell 2
 clear C
 have HI:=Lib.hid hiff
 clear hiff
 by_cases h1:kn < 1
 ·have h1':(kn:Int) < 1:=by omega
  have hf:b=false:=by cases b; rfl; exact absurd (HI.out.1 rfl).1.1.1 (by omega)
  subst hf
  clear HI h1
  go_enter Tryz.func84,Tryz.ntmps84
  go_wp2
  go_ret
  exact ⟨rfl,HB.out⟩
 have h1':¬ (kn:Int) < 1:=by omega
 by_cases h2:32 < kn
 ·have h2':(32:Int) < (kn:Int):=by omega
  have hf:b=false:=by cases b; rfl; exact absurd (HI.out.1 rfl).1.1.2 (by omega)
  subst hf
  clear HI h1 h2
  go_enter Tryz.func84,Tryz.ntmps84
  go_wp2
  go_ret
  exact ⟨rfl,HB.out⟩
 have h2':¬ (32:Int) < (kn:Int):=by omega
 by_cases h3:vn≤128
 ·have h3':(vn:Int)≤128:=by omega
  cases gn
  ·have ht:b=true:=HI.out.2 ⟨⟨⟨by omega,by omega⟩,h3⟩,fun h=>by cases h⟩
   subst ht
   clear HI h1 h2 h3
   go_enter Tryz.func84,Tryz.ntmps84
   go_wp2
   go_ret
   exact ⟨rfl,HB.out⟩
  ·by_cases h4:vn=0
   ·subst h4
    have ht:b=true:=HI.out.2 ⟨⟨⟨by omega,by omega⟩,h3⟩,fun _=>rfl⟩
    subst ht
    clear HI h1 h2 h3
    go_enter Tryz.func84,Tryz.ntmps84
    go_wp2
    go_ret
    exact ⟨rfl,HB.out⟩
   ·have h4':¬ (vn:Int)=0:=by omega
    have h4b:((vn:Int) == 0)=false:=by rw [beq_eq_false_iff_ne]; exact h4'
    have hf:b=false:=by cases b; rfl; exact absurd ((HI.out.1 rfl).2 rfl) h4
    subst hf
    clear HI h1 h2 h3 h4
    go_enter Tryz.func84,Tryz.ntmps84
    go_wp2
    go_ret
    exact ⟨rfl,HB.out⟩
 ·have h3':¬ (vn:Int)≤128:=by omega
  have hf:b=false:=by cases b; rfl; exact absurd (HI.out.1 rfl).1.2 h3
  subst hf
  clear HI h1 h2 h3
  go_enter Tryz.func84,Tryz.ntmps84
  go_wp2
  go_ret
  exact ⟨rfl,HB.out⟩
end
end Go.Proofs.YtgkofgifoiinkaaGreat
namespace Go.Proofs.YtgkofgifoiinkaaGreat
open Go.RowKit Go.Maps
def boolR:Value→Option (DataW Unit × List MemPlace)
 | .bool b=>some (.lit (.bool b),[])
 | _=>none
theorem boolR_inv {u:Value} {z:DataW Unit × List MemPlace} (h:boolR u=some z):∃ b,u = .bool b∧z=(.lit (.bool b),[]):=by
 unfold boolR at h
 split at h
 ·cases h; exact ⟨_,rfl,rfl⟩
 ·cases h
def SSet (w:World) (mb:Nat) (ks:List Bytes):Prop:=∃ Dm:DataW Unit,w.ownsMap Tryz.prog 9 boolR mb ks.length Dm∧(∀ k,Maps.has Dm (.string k)=decide (k∈ks))∧∀ k∈ks,∀ zd,Dm.atKey (.string k) zd = .lit (.bool true)
section
variable {w w':World} {mb:Nat} {ks:List Bytes} {k:Bytes}
theorem SSet.kept (h:SSet w mb ks) (hk:w'.heap[mb]? = w.heap[mb]?):SSet w' mb ks:=by
 obtain ⟨Dm,⟨es,clock,hb,r⟩,h2⟩:=h
 exact ⟨Dm,⟨es,clock,hk.trans hb,r⟩,h2⟩
theorem SSet.lt (h:SSet w mb ks):mb < w.heap.size:=let ⟨_,h,_⟩:=h; h.lt
theorem SSet.below (h:SSet w mb ks) (hb:Below w.heap.size w w'):SSet w' mb ks:=h.kept (hb.block mb h.lt)
theorem sset_new (w:World):SSet (w.alloc (.map #[] 0)) w.heap.size []:=⟨.map [],World.ownsMap_made _ _ _ _,fun _=>rfl,fun _ h=>by cases h⟩
theorem zero_bool:∀ w:World,(zeroValue 4).run Tryz.prog w = .ok (.bool false) w:=fun w=>by kernel_rfl
theorem SSet.look (h:SSet w mb ks) (hk:k.length≤maxLen):(Instr.lookup 119 (.map (some mb)) (strV k) false).run Tryz.prog w = .ok (.bool (decide (k∈ks))) w:=by
 obtain ⟨Dm,h1,h2,h3⟩:=h
 obtain ⟨u,ps,hr,hu⟩:=h1.lookup (t:=119) str_law Tryz.underlying119 (zero_bool w) (zd:=.lit (.bool false)) (zp:=[]) rfl (key_of hk)
 obtain ⟨b,rfl,hx⟩:=boolR_inv hu
 have e:b=decide (k∈ks):=by
  have e1:=congrArg Prod.fst hx
  simp only at e1
  by_cases hm:k∈ks
  ·rw [h3 k hm] at e1
   rw [decide_eq_true hm]
   simpa using e1.symm
  ·have h4:Maps.has Dm (.string k)=false:=by rw [h2,decide_eq_false hm]
   rw [atKey_of_not_has h4] at e1
   rw [decide_eq_false hm]
   simpa using e1.symm
 rw [hr,e]
theorem SSet.put (h:SSet w mb ks) (hk:k.length≤maxLen) (hn:ks.length < maxLen):∃ w',(Instr.mapUpdate 119 (.map (some mb)) (strV k) (.bool true)).run Tryz.prog w = .ok () w'∧SSet w' mb (ks++[k])∧Only (· = mb) w w':=by
 obtain ⟨Dm,h1,h2,h3⟩:=h
 obtain ⟨w',r1,r2,r3⟩:=h1.store (t:=119) str_law Tryz.underlying119 hn (key_of hk) (val:=.bool true) (d:=.lit (.bool true)) (ps:=[]) rfl
 refine ⟨w',r1,⟨_,by rw [List.length_append]; exact r2,fun x=>?_,fun x hx zd=>?_⟩,turned_only r3⟩
 ·by_cases e:x=k
  ·subst e
   rw [has_put_same h1.isMap (show WideAt.IsKeyLit (.string x) from trivial)]
   simp
  ·rw [has_put_other (by simpa using e),h2]
   simp [e]
 ·by_cases e:x=k
  ·subst e
   exact atKey_put_same h1.isMap (show WideAt.IsKeyLit (.string x) from trivial) _ _
  ·rw [atKey_put_other (by simpa using e)]
   exact h3 x (by simpa [e] using hx) zd
theorem comOk_snoc {l:List Wr} {r:Nat} {x:Wr} (hx:l[r]? = some x):ComOk (l.take (r+1))↔ComOk (l.take r)∧WrOk x∧x.key ∉ (l.take r).map Wr.key:=by
 have e:l.take (r+1)=l.take r++[x]:=by rw [List.take_add_one,hx]; rfl
 unfold ComOk
 rw [e,List.map_append,List.nodup_append]
 constructor
 ·rintro ⟨h1,h2,_,h4⟩
  exact ⟨⟨fun y hy=>h1 y (List.mem_append_left _ hy),h2⟩,h1 x (List.mem_append_right _ List.mem_cons_self),fun hm=>h4 _ hm _ List.mem_cons_self rfl⟩
 ·rintro ⟨⟨h1,h2⟩,h3,h4⟩
  refine ⟨fun y hy=>?_,h2,by simp,fun a ha b hb e=>?_⟩
  ·rcases List.mem_append.1 hy with hy | hy
   ·exact h1 y hy
   ·rw [List.mem_singleton.1 hy]; exact h3
  ·simp at hb
   subst hb
   exact h4 (e ▸ ha)
theorem comOk_take {l:List Wr} (h:ComOk l) (r:Nat):ComOk (l.take r):=⟨fun x hx=>h.1 x (List.mem_of_mem_take hx),by
 rw [List.map_take]
 exact h.2.sublist (List.take_sublist _ _)⟩
set_option maxRecDepth 100000 in
set_option maxHeartbeats 2000000 in
theorem mayCommit_any {S:Nat→Prop} {lv:Value} {l:List Wr} (h:Rd kdWr w S lv l) (hn:l.length≤1000000):Calls Tryz.prog 43 #[lv] w fun e w'=>e = .returned (.bool (decide (ComOk l)))∧Below w.heap.size w w':=by
 obtain ⟨la,lc,rfl,_⟩:=h.shape
 obtain ⟨n,hnn⟩:∃ n,n=l.length:=⟨_,rfl⟩
 rw [← hnn] at h hn ⊢
 have hm0:=sset_new w
 have hb0:Below w.heap.size w (w.alloc (.map #[] 0)):=(Below.refl _ _).alloc (Nat.le_refl _) _
 have hmm := @run_makeMap Tryz.prog
 have HH:=Lib.hid (anZ h (anZ hnn (anZ hm0 hb0)))
 clear h hnn hm0 hb0
 go_enter Tryz.func43,Tryz.ntmps43
 go_wp2
 clear hmm
 go_loopw [9] (fun i wr=>∃ r:Nat,r≤n∧i = .int .i64 (r:Int)∧ComOk (l.take r)∧SSet wr w.heap.size ((l.take r).map Wr.key)∧Below w.heap.size w wr) (fun i _=>n-(intOf i).toNat)
 case atStart=>exact ⟨0,Nat.zero_le _,rfl,(by rw [List.take_zero]; exact ⟨fun _ h=>(by cases h),List.nodup_nil⟩),HH.out.2.2.1,HH.out.2.2.2⟩
 case round =>
  obtain ⟨r,hr,rfl,hok,hms,hb⟩:=hrel
  obtain ⟨h,hnn, -, -⟩:=HH.out
  by_cases hlt:r < n
  ·obtain ⟨x,hx⟩:∃ x,l[r]? = some x:=⟨_,List.getElem?_eq_getElem (by omega)⟩
   obtain ⟨gg,o,cap,ka,kc,va,vc,e0,hg,k0,k1,k2,bk,bv⟩:=(h.step (Step.of_below hb S)).wr hx
   rw [← hnn] at e0
   simp only [Value.slice.injEq] at e0
   obtain ⟨rfl, -,rfl⟩:=e0
   have hil:(r:Int) < (n:Int):=by omega
   have hr0:(0:Int)≤(r:Int):=by omega
   obtain ⟨kn,hkn⟩:∃ kn,kn=x.key.length:=⟨_,rfl⟩
   obtain ⟨vn,hvn⟩:∃ vn,vn=x.val.length:=⟨_,rfl⟩
   obtain ⟨gn,hgn⟩:∃ gn,gn=x.gone:=⟨_,rfl⟩
   obtain ⟨wb,hwb⟩:∃ wb,wb=wr.alloc (.cells #[.slice ka x.key.length kc, .slice va x.val.length vc, .bool x.gone] 61):=⟨_,rfl⟩
   have hbx:Below wr.heap.size wr wb:=by rw [hwb]; exact (Below.refl _ _).alloc (Nat.le_refl _) _
   have CB:Cel wb wr.heap.size [.slice ka x.key.length kc, .slice va x.val.length vc, .bool x.gone] 61:=by rw [hwb]; exact Cel.new wr _ _
   have MW:=mayWrite_any (w:=wb) (x:=x) (bk.1.below hbx) (bv.1.below hbx)
   have hall:=comOk_snoc hx
   have hkl:=bk.1.len
   have e1:(l.take r).map Wr.key++[x.key]=(l.take (r+1)).map Wr.key:=by
    rw [List.take_add_one,hx,List.map_append]
    rfl
   have E1:=Lib.hid e1
   clear e1
   rw [← hkn] at k0 bk CB MW
   rw [← hvn] at k1 bv CB MW
   rw [← hgn] at k2 CB MW
   have hwb':wb=wr.alloc (.cells #[.slice ka kn kc, .slice va vn vc, .bool gn] 61):=by rw [hwb,hkn,hvn,hgn]
   rw [hwb'] at MW
   have d0:(wr.alloc (.cells #[.slice ka kn kc, .slice va vn vc, .bool gn] 61)).cell? ⟨wr.heap.size,0,none⟩=some (.slice ka kn kc):=by rw [← hwb']; exact CB.cell 0
   have HB:=Lib.hid (anZ hok (anZ hms (anZ hb (anZ hbx (anZ CB (anZ bk (anZ hall (anZ hwb' (anZ hnn (anZ hkn hkl))))))))))
   by_cases hw:WrOk x
   ·rw [decide_eq_true hw] at MW
    have HO:=Lib.hid hw
    have hkm:x.key.length≤maxLen:=by have:=hw.1.1.2; unfold maxLen; omega
    have HK:=Lib.hid hkm
    clear hnn hok hms hb hbx CB bk bv hall hkn hvn hgn hwb hwb' hw h hx hkm hkl
    go_wp2_with fail
    refine MW.mono ?_
    rintro e w2 ⟨rfl,hb2⟩
    clear MW
    rw [← HB.out.2.2.2.2.2.2.2.1] at hb2
    have hbxx:=HB.out.2.2.2.1
    have hms2:=(HB.out.2.1.below hbxx).below hb2
    have e2:=HB.out.2.2.2.2.1.below hb2 HB.out.2.2.2.2.1.lt
    have e20:w2.cell? ⟨wr.heap.size,0,none⟩=some (.slice ka kn kc):=e2.cell 0
    have t1:=run_string_bs bt (d:=9) Tryz.underlying9 w2 ((HB.out.2.2.2.2.2.1.1.below hbxx).below hb2)
    have t2:=hms2.look (k:=x.key) HK.out
    have hbw2:Below w.heap.size w w2:=(HB.out.2.2.1.trans (hbxx.mono HB.out.2.2.1.size)).trans (hb2.mono (HB.out.2.2.1.trans (hbxx.mono HB.out.2.2.1.size)).size)
    by_cases hin:x.key∈(l.take r).map Wr.key
    ·rw [decide_eq_true hin] at t2
     have hno:decide (ComOk l)=false:=decide_eq_false fun hc=>(HB.out.2.2.2.2.2.2.1.1 (comOk_take hc _)).2.2 hin
     have HF:=Lib.hid (anZ hno hbw2)
     clear hms2 e2 hbw2 hin hno hb2 d0 k0 k1 k2 hbxx
     go_wp2
     go_ret
     exact ⟨congrArg (fun b=>Ending.returned (.bool b)) HF.out.1.symm,HF.out.2⟩
    ·rw [decide_eq_false hin] at t2
     have hyes:=HB.out.2.2.2.2.2.2.1.2 ⟨HB.out.1,HO.out,hin⟩
     obtain ⟨w3,hr3,hm3,ho3⟩:=hms2.put (k:=x.key) HK.out (by have:=HB.out.2.2.2.2.2.2.2.2.1; rw [List.length_map,List.length_take]; unfold maxLen; omega)
     have hb3:=ho3.below hbw2.size (fun q e=>by rw [e]; exact Nat.le_refl _)
     rw [E1.out] at hm3
     have HF:=Lib.hid (anZ hyes (anZ hm3 (hbw2.trans hb3)))
     clear hms2 e2 hbw2 hin hyes hm3 ho3 hb3 hb2 d0 k0 k1 k2 hbxx
     go_wp2
     go_roundw
     case rel=>exact ⟨r+1,by omega,by go_num,HF.out.1,HF.out.2.1,HF.out.2.2⟩
     case measure=>simp [intOf]; omega
   ·rw [decide_eq_false hw] at MW
    have hno:decide (ComOk l)=false:=decide_eq_false fun hc=>hw (hall.1 (comOk_take hc _)).2.1
    have HF:=Lib.hid hno
    clear hnn hok hms hb hbx CB bk bv hall hkn hvn hgn hwb hwb' hw h hx hkl hno
    go_wp2_with fail
    refine MW.mono ?_
    rintro e w2 ⟨rfl,hb2⟩
    clear MW
    rw [← HB.out.2.2.2.2.2.2.2.1] at hb2
    have hbxx:=HB.out.2.2.2.1
    have hbw2:Below w.heap.size w w2:=(HB.out.2.2.1.trans (hbxx.mono HB.out.2.2.1.size)).trans (hb2.mono (HB.out.2.2.1.trans (hbxx.mono HB.out.2.2.1.size)).size)
    have HF2:=Lib.hid hbw2
    clear hbxx hbw2 hb2 d0 k0 k1 k2
    go_wp2
    go_ret
    exact ⟨congrArg (fun b=>Ending.returned (.bool b)) HF.out.symm,HF2.out⟩
  ·obtain rfl:r=n:=by omega
   rw [List.take_of_length_le (by omega)] at hok
   have hd:decide (ComOk l)=true:=decide_eq_true hok
   have hil:¬ (r:Int) < (r:Int):=by omega
   have HB:=Lib.hid (anZ hd hb)
   clear h hnn hok hms hb hd
   go_wp2
   go_ret
   exact ⟨congrArg (fun b=>Ending.returned (.bool b)) HB.out.1.symm,HB.out.2⟩
end
end Go.Proofs.YtgkofgifoiinkaaGreat
