/- Contracts of block.Seal and of what it calls: each answers as the chapter says and writes nothing that was there; conditions: the lengths that each contract names. -/
import Derived.Test.YtgkofgifoiinkaaGreatN04
import Derived.Test.YtgkofgifoiinkaaGreatN02
import Derived.Test.YtgkofgifoiinkaaGreatN01
import Derived.Laws.CopyOwn
import Derived.StillTailTactics
import Derived.Deep.RegionHeld3
import Derived.OrdersIn
import Derived.TacticsIn
import Derived.RangeFuncCalls
import Derived.Test.YtgkofgifoiinkaaGreatN03
namespace Go.Proofs.YtgkofgifoiinkaaGreat
open Go.RowKit
theorem leN_inj:∀ (a b:List UInt8),a.length=b.length→leN a=leN b→a=b
 | [],[],_,_=>rfl
 | x::a,y::b,h,e=>by
  have hx:=x.toNat_lt
  have hy:=y.toNat_lt
  simp only [leN] at e
  have h1:x.toNat=y.toNat:=by omega
  have h2:leN a=leN b:=by omega
  rw [UInt8.toNat_inj.1 h1,leN_inj a b (by simpa using h) h2]
theorem beNat_inj:∀ (a b:List UInt8),a.length=b.length→beNat a=beNat b→a=b:=by
 intro a b h e
 have h1:=leN_inj a.reverse b.reverse (by simpa using h)
 have h2:∀ l:List UInt8,leN l.reverse=beNat l:=by
  intro l
  induction l with
  | nil=>rfl
  | cons x l ih =>
   rw [List.reverse_cons,leN_append,ih,beNat_cons,List.length_reverse]
   simp only [leN]
   rw [Nat.mul_zero,Nat.add_zero,Nat.add_comm]
 rw [h2,h2] at h1
 simpa using h1 e
theorem beL_two_of (a:List UInt8) (h:a.length=2):beL (beNat a) 2=a:=by
 apply beNat_inj
 ·rw [beL_length,h]
 ·have:=beNat_lt a
  rw [h] at this
  rw [beNat_beL,Nat.mod_eq_of_lt this]
def aheadL (k:UInt8) (body:List UInt8):List UInt8:=k::(beL body.length 2++(body++List.replicate (505-body.length) 0))
def sealL (k:UInt8) (body:List UInt8):List UInt8:=aheadL k body++four (sumN (aheadL k body))
theorem four_length (s:Nat):(four s).length=4:=rfl
theorem aheadL_length {k:UInt8} {body:List UInt8} (h:body.length≤505):(aheadL k body).length=508:=by
 simp [aheadL,beL_length]; omega
theorem sealL_length {k:UInt8} {body:List UInt8} (h:body.length≤505):(sealL k body).length=512:=by
 simp [sealL,aheadL_length h,four_length]
theorem sealL_take {k:UInt8} {body:List UInt8} (h:body.length≤505):(sealL k body).take 508=aheadL k body:=by
 unfold sealL
 rw [← aheadL_length (k:=k) h,List.take_left]
theorem sealL_right (k:UInt8) (body:List UInt8):rightB (sealL k body)=true:=right_sealed _
theorem right_form {l:List UInt8} (h:l.length=512) (hr:rightB l=true):l=l.take 508++four (sumN (l.take 508)):=by
 have h1:l.drop 508=four (sumN (l.take 508)):=by
  apply leN_inj
  ·rw [four_length,List.length_drop,h]
  ·rw [leN_four_eq _ (sumN_lt _)]
   rw [rightB_long (by omega)] at hr
   unfold rightP at hr
   rw [h] at hr
   exact beq_iff_eq.1 hr
 rw [← h1,List.take_append_drop]
def nOf (l:List UInt8):Nat:=beNat ((l.drop 1).take 2)
def noughtsB (l:List UInt8):Bool:=l.all (· == 0)
def openOk (l:List UInt8):Bool:=decide (nOf l≤505) && (l.getD 0 0 != 0) && noughtsB ((l.take 508).drop (3+nOf l))
def openV (l:List UInt8):UInt8 × List UInt8 × Int :=
 if l.length=512∧rightB l=true then (if openOk l=true then (l.getD 0 0,(l.drop 3).take (nOf l),0) else (0,[],5)) else (0,[],9)
theorem openV_spoilt {l:List UInt8} (h:¬ (l.length=512∧rightB l=true)):openV l=(0,[],9):=if_neg h
theorem openV_bad {l:List UInt8} (h:l.length=512∧rightB l=true) (ho:¬ openOk l=true):openV l=(0,[],5):=by
 unfold openV
 rw [if_pos h,if_neg ho]
theorem openV_good {l:List UInt8} (h:l.length=512∧rightB l=true) (ho:openOk l=true):openV l=(l.getD 0 0,(l.drop 3).take (nOf l),0):=by
 unfold openV
 rw [if_pos h,if_pos ho]
theorem noughtsB_replicate (n:Nat):noughtsB (List.replicate n 0)=true:=by simp [noughtsB]
theorem noughtsB_iff (l:List UInt8):noughtsB l=true↔l=List.replicate l.length 0:=by
 unfold noughtsB
 constructor
 ·intro h
  apply List.eq_replicate_iff.2
  refine ⟨rfl,fun b hb=>?_⟩
  simpa using List.all_eq_true.1 h b hb
 ·intro h
  rw [h]
  simp
theorem nOf_seal {k:UInt8} {body:List UInt8} (h:body.length≤505):nOf (sealL k body)=body.length:=by
 have e:((sealL k body).drop 1).take 2=beL body.length 2:=by
  unfold sealL aheadL
  rw [List.cons_append,List.drop_succ_cons,List.drop_zero,List.append_assoc]
  exact List.take_left' (beL_length _ _)
 unfold nOf
 rw [e,beNat_beL]
 omega
theorem openOk_seal {k:UInt8} {body:List UInt8} (hk:k≠0) (h:body.length≤505):openOk (sealL k body)=true:=by
 unfold openOk
 rw [nOf_seal h,sealL_take h]
 have e:(aheadL k body).drop (3+body.length)=List.replicate (505-body.length) 0:=by
  unfold aheadL
  rw [show 3+body.length=(2+body.length)+1 by omega,List.drop_succ_cons, ← List.append_assoc]
  exact List.drop_left' (by simp [beL_length])
 rw [e,noughtsB_replicate]
 have:(sealL k body).getD 0 0=k:=rfl
 rw [this]
 simp [h,hk]
theorem open_seal {k:UInt8} {body:List UInt8} (hk:k≠0) (h:body.length≤505):openV (sealL k body)=(k,body,0):=by
 rw [openV_good ⟨sealL_length h,sealL_right _ _⟩ (openOk_seal hk h),nOf_seal h]
 have e:((sealL k body).drop 3).take body.length=body:=by
  unfold sealL aheadL
  rw [List.cons_append,List.drop_succ_cons,List.append_assoc,List.drop_left' (beL_length _ _),List.append_assoc]
  exact List.take_left
 rw [e]
 rfl
theorem seal_of_ok {l:List UInt8} (h:l.length=512∧rightB l=true) (ho:openOk l=true):l=sealL (l.getD 0 0) ((l.drop 3).take (nOf l))∧l.getD 0 0≠0∧((l.drop 3).take (nOf l)).length=nOf l∧nOf l≤505:=by
 obtain ⟨h1,h2⟩:=h
 unfold openOk at ho
 simp only [Bool.and_eq_true,decide_eq_true_eq,bne_iff_ne] at ho
 obtain ⟨⟨hn,hk⟩,hz⟩:=ho
 have hlen:((l.drop 3).take (nOf l)).length=nOf l:=by simp; omega
 refine ⟨?_,hk,hlen,hn⟩
 have hf:=right_form h1 h2
 have ha:aheadL (l.getD 0 0) ((l.drop 3).take (nOf l))=l.take 508:=by
  rw [noughtsB_iff] at hz
  have hzl:((l.take 508).drop (3+nOf l)).length=505-nOf l:=by simp; omega
  rw [hzl] at hz
  unfold aheadL
  rw [hlen, ← hz]
  match l,h1 with
  | x::m,h1 =>
   have e1:nOf (x::m)=beNat (m.take 2):=rfl
   rw [List.getD_cons_zero]
   have e2:beL (nOf (x::m)) 2=m.take 2:=by rw [e1]; exact beL_two_of _ (by simp at h1 ⊢; omega)
   rw [e2]
   generalize nOf (x::m)=n at *
   rw [show (508:Nat)=507+1 from rfl,List.take_succ_cons,show 3+n=(2+n)+1 by omega,List.drop_succ_cons]
   congr 1
   rw [show List.drop (2+n+1) (x::List.take 507 m)=(List.take 507 m).drop (2+n) from rfl]
   have e3:(m.drop 2).take n=(m.take (2+n)).drop 2:=by rw [List.take_drop]
   have e4:m.take 2=(m.take (2+n)).take 2:=by rw [List.take_take]; congr 1; omega
   have e5:m.take (2+n)=(m.take 507).take (2+n):=by rw [List.take_take]; congr 1; omega
   rw [e3,e4, ← List.append_assoc,List.take_append_drop,e5,List.take_append_drop]
 unfold sealL
 rw [ha]
 exact hf
theorem seal_open {l:List UInt8} (h:(openV l).2.2=0):l=sealL (openV l).1 (openV l).2.1∧(openV l).1≠0∧(openV l).2.1.length≤505:=by
 by_cases h1:l.length=512∧rightB l=true
 ·by_cases h2:openOk l=true
  ·rw [openV_good h1 h2]
   obtain ⟨a,b,c,d⟩:=seal_of_ok h1 h2
   exact ⟨a,b,by show (List.take _ _).length≤_; omega⟩
  ·rw [openV_bad h1 h2] at h
   cases h
 ·rw [openV_spoilt h1] at h
  cases h
theorem openV_zero {l:List UInt8} (h:(openV l).2.2≠0):(openV l).1=0∧(openV l).2.1=[]∧((openV l).2.2=9∨(openV l).2.2=5):=by
 by_cases h1:l.length=512∧rightB l=true
 ·by_cases h2:openOk l=true
  ·rw [openV_good h1 h2] at h
   exact absurd rfl h
  ·rw [openV_bad h1 h2]
   exact ⟨rfl,rfl, .inr rfl⟩
 ·rw [openV_spoilt h1]
  exact ⟨rfl,rfl, .inl rfl⟩
end Go.Proofs.YtgkofgifoiinkaaGreat
namespace Go.Proofs.YtgkofgifoiinkaaGreat
open Go.RowKit
def Arr (w:World) (g:Nat) (t:TypeId) (l:List UInt8):Prop:=w.heap[g]? = some (.cells (bvs l).toArray t (0,0))
theorem Arr.lt {w:World} {g:Nat} {t:TypeId} {l:List UInt8} (h:Arr w g t l):g < w.heap.size:=(Array.getElem?_eq_some_iff.1 h).1
theorem Arr.below {w w':World} {g:Nat} {t:TypeId} {l:List UInt8} {B:Nat} (h:Arr w g t l) (hb:Below B w w') (hg:g < B):Arr w' g t l:=by
 unfold Arr at *
 rw [hb.block g hg]; exact h
theorem Arr.drewN {w:World} {g:Nat} {t:TypeId} {l:List UInt8} (h:Arr w g t l) (n:Nat):Arr (w.drewN n) g t l:=h
theorem Arr.cell {w:World} {g:Nat} {t:TypeId} {l:List UInt8} (h:Arr w g t l) (i:Nat) (hi:i < l.length):w.cell? ⟨g,i,none⟩=some (bv l[i])∧w.frozen? ⟨g,i,none⟩=false:=by
 unfold Arr at h
 constructor
 ·simp [World.cell?,h,bvs,hi]
 ·simp [World.frozen?,h]
theorem Arr.bs {w:World} {g:Nat} {t:TypeId} {l:List UInt8} (h:Arr w g t l) (o n cap:Nat) (h1:o+n≤l.length) (h2:n≤cap) (h3:cap≤maxLen) :
  Bs w (.slice (some ⟨g,o,none⟩) n cap) ((l.drop o).take n):=by
 have hlen:((l.drop o).take n).length=n:=by simp; omega
 refine ⟨_,cap,by rw [hlen],by omega,h3,(fun h=>by cases h),fun ad had i u hu=>?_⟩
 cases had
 rw [Addr.add_lit]
 have hi:=(List.getElem?_eq_some_iff.1 hu).1
 rw [bvs_length,hlen] at hi
 rw [(h.cell (o+i) (by omega)).1, ← hu]
 simp only [bvs,List.getElem?_map,List.getElem?_take,List.getElem?_drop]
 rw [if_pos hi,List.getElem?_eq_getElem (by omega)]
 rfl
theorem Arr.ow {w:World} {g:Nat} {t:TypeId} {l:List UInt8} {base:Nat} (h:Arr w g t l) (hb:base≤g) (hm:l.length≤maxLen):Ow w base t (.slice (some ⟨g,0,none⟩) l.length l.length) l :=
 ⟨by simp [bvs], .inr ⟨g,l.length,(bvs l).toArray,rfl,hb,h,Nat.le_refl _,hm,by simp [bvs],by simp [bvs,List.take_of_length_le]⟩⟩
theorem Arr.set {w:World} {g:Nat} {t:TypeId} {l:List UInt8} (h:Arr w g t l) (i:Nat) (x:UInt8):Arr (w.setCell ⟨g,i,none⟩ (bv x)) g t (l.set i x):=by
 unfold Arr at *
 rw [Lib.heap_setCell_same h]
 congr 2
 apply Array.ext'
 simp [bvs,List.map_set]
theorem splice_bvs (l:List UInt8) (o:Nat) (m:List UInt8):splice (bvs l) o (bvs m)=bvs (splice l o m):=by
 simp [splice,bvs]
theorem Arr.spliced {w:World} {g:Nat} {t:TypeId} {l m:List UInt8} {o:Nat} (h:Hid (w.heap[g]? = some (.cells (splice (bvs l) o (bvs m)).toArray t (0,0)))):Arr w g t (splice l o m):=by
 have:=h.out
 rw [splice_bvs] at this
 exact this
theorem Arr.new (w:World) (t:TypeId) (l:List UInt8):Arr (w.alloc (.cells (bvs l).toArray t)) w.heap.size t l:=heap_alloc_new w _
theorem ByteTy.one {P:Program} {t e:TypeId} (T:ByteTy P t e):(P.info? e).map (·.size)=some 1:=by
 obtain ⟨i,hi,_,hs,_⟩:=T.parts
 rw [hi]; simp [hs]
theorem wpList_copy_bs {P:Program} {t e:TypeId} (T:ByteTy P t e) {w:World} {ops:Array Oper} {rest:List Oper} {o:Oper} {a:Act} {Q:Exit→Act→World→Prop} (hgd:o.guard=none) (d s:Operand)
  (ho:o.op = .call { callee:=.builtin .copy,args := #[d,s],argTypes := #[t,t] }) (g off dLen dCap:Nat) (ty:TypeId) (l m:List UInt8) (sv:Value)
  (hd:a.eval d = .slice (some ⟨g,off,none⟩) dLen dCap) (hs:a.eval s=sv) (hm:Bs w sv m) (hg:Arr w g ty l) (hfit:m.length≤dLen) (hin:off+m.length≤l.length)
  (B:Nat) (w0:World) (hb:Below B w0 w) (hBg:B≤g)
  (h:∀ w',Arr w' g ty (splice l off m)→Below B w0 w'→wpList P ops Q rest (a.put o.dst (goInt m.length)) w') :
  wpList P ops Q (o::rest) a w:=by
 obtain ⟨sa,cap,rfl,h1,h2,h3,h4⟩:=hm
 have:=wpList_copy_splice (P:=P) (w:=w) (ops:=ops) (rest:=rest) (o:=o) (a:=a) (Q:=Q) hgd d s t t ho e T.slice T.one (some ⟨g,off,none⟩) sa dLen dCap m.length cap hd hs g off (bvs l) ty hg (bvs m)
  (by rw [bvs_length]; exact (Nat.min_eq_left hfit).symm)
  (fun hp=>by
   refine ⟨rfl,?_⟩
   rw [bvs_length] at hp
   rcases sa with _ | ad
   ·have:=h3 rfl; omega
   ·exact ⟨ad,rfl,h4 ad rfl⟩)
  (by rw [bvs_length,bvs_length]; exact hin) bvs_one B w0 hb hBg
 apply this
 intro w' hw' hb'
 rw [bvs_length]
 exact h w' (Arr.spliced hw') hb'
theorem step_copy_bs {P:Program} {t e:TypeId} (T:ByteTy P t e) {w:World} {ops:Array Oper} {o:Oper} {a:Act} {K:Act→World→Prop} {Q:Exit→Act→World→Prop} {E:Prop} (hgd:o.guard=none) (d s:Operand)
  (ho:o.op = .call { callee:=.builtin .copy,args := #[d,s],argTypes := #[t,t] }) (g off dLen dCap:Nat) (ty:TypeId) (l m:List UInt8) (sv:Value)
  (hd:a.eval d = .slice (some ⟨g,off,none⟩) dLen dCap) (hs:a.eval s=sv) (hm:Bs w sv m) (hg:Arr w g ty l) (hfit:m.length≤dLen) (hin:off+m.length≤l.length)
  (B:Nat) (w0:World) (hb:Below B w0 w) (hBg:B≤g)
  (h:∀ w',Arr w' g ty (splice l off m)→Below B w0 w'→K (a.put o.dst (goInt m.length)) w') :
  if Region.wanted o (yielded ops a.tmps)=true then Oper.wp P o a w K Q else E:=by
 obtain ⟨sa,cap,rfl,h1,h2,h3,h4⟩:=hm
 have:=step_copy_splice (P:=P) (w:=w) (ops:=ops) (o:=o) (a:=a) (K:=K) (Q:=Q) (E:=E) hgd d s t t ho e T.slice T.one (some ⟨g,off,none⟩) sa dLen dCap m.length cap hd hs g off (bvs l) ty hg (bvs m)
  (by rw [bvs_length]; exact (Nat.min_eq_left hfit).symm)
  (fun hp=>by
   refine ⟨rfl,?_⟩
   rw [bvs_length] at hp
   rcases sa with _ | ad
   ·have:=h3 rfl; omega
   ·exact ⟨ad,rfl,h4 ad rfl⟩)
  (by rw [bvs_length,bvs_length]; exact hin) bvs_one B w0 hb hBg
 apply this
 intro w' hw' hb'
 rw [bvs_length]
 exact h w' (Arr.spliced hw') hb'
end Go.Proofs.YtgkofgifoiinkaaGreat
namespace Go.Proofs.YtgkofgifoiinkaaGreat
section
variable {P:Program} {ops:Array Oper} {Q:Exit→Act→World→Prop} {md:Region.Mode} {S:World→Prop} {t:Nat}
def AnyTill (P:Program) (md:Region.Mode) (ops:Array Oper) (Q:Exit→Act→World→Prop) (S:World→Prop) (t:Nat):Nat→Array Bool→Act→World→Prop
 | 0,listed,a,w=>Region.ready md ops listed=[]∧Q .normal a w
 | n+1,listed,a,w=>(Region.ready md ops listed=[]→Q .normal a w) ∧
   ∀ i∈Region.ready md ops listed,wpOp P ops Q i (fun a' w'=>(i≠t→S w')∧AnyTill P md ops Q S t n (listed.setIfInBounds i true) a' w') a w
theorem AnyTill.any:∀ (n:Nat) (listed:Array Bool) (a:Act) (w:World),AnyTill P md ops Q S t n listed a w→wpAny P md ops Q n listed a w
 | 0,_,_,_,h=>h
 | n+1,_,_,_,h=>⟨h.1,fun i hi=>wpOp_mono (fun a' w' hh=>AnyTill.any n _ a' w' hh.2) (h.2 i hi)⟩
theorem ready_waits {listed:Array Bool} {i j:Nat} {oj:Oper} (hi:i∈Region.ready md ops listed) (hj:j∈Region.ready md ops listed) (hoj:ops[j]? = some oj):∀ e∈oj.after,Region.binds md e=true→e.on≠i:=by
 intro e he hb heq
 obtain ⟨_,o',ho',hall⟩:=mem_ready.1 hj
 obtain rfl:oj=o':=Option.some.inj (hoj.symm.trans ho')
 have h1:=hall e he hb
 have h0:=(mem_ready.1 hi).1
 rw [heq] at h1
 by_cases hl:i < listed.size
 ·rw [Array.getD_eq_getD_getElem?,Array.getElem?_eq_getElem hl] at h0 h1
  simp only [Option.getD_some] at h0 h1
  rw [h0] at h1
  cases h1
 ·rw [Array.getD_eq_getD_getElem?,Array.getElem?_eq_none (by omega)] at h1
  cases h1
theorem AnyTill.first {i:Nat} {oi:Oper} {v:Value} (hi:ops[i]? = some oi) (hwait:∀ ot,ops[t]? = some ot→∃ e∈ot.after,Region.binds md e=true∧e.on=i)
  (hsel:∀ (j:Nat) (o:Oper) cs b,ops[j]? = some o→o.op ≠ .select cs b) (hQ:∀ c a w,Q (.panic c) (a.put oi.dst v) w→Q (.panic c) a w) :
  ∀ (n:Nat) (listed:Array Bool) (a:Act) (w:World),
   (∀ j oj,ops[j]? = some oj→j≠i→listed.getD j true=false→(∀ e∈oj.after,Region.binds md e=true→e.on≠i)→oi.apart ops oj=true) →
   i∈Region.ready md ops listed→YieldsIf P ops S oi v a→S w→i≠t →
   AnyTill P md ops Q S t n (listed.setIfInBounds i true) (a.put oi.dst v) w→AnyTill P md ops Q S t (n+1) listed a w:=by
 intro n
 induction n with
 | zero =>
  intro listed a w _ hr hy hS hit H
  refine ⟨fun h=>absurd hr (by rw [h]; simp),fun j hj=>?_⟩
  rcases Decidable.em (j=i) with rfl | hji
  ·exact hy.wpOp hi hS ⟨fun _=>hS,H⟩
  ·exact absurd (ready_mono hj hji) (by rw [H.1]; simp)
 | succ n ih =>
  intro listed a w hfree hr hy hS hit H
  refine ⟨fun h=>absurd hr (by rw [h]; simp),fun j hj=>?_⟩
  rcases Decidable.em (j=i) with rfl | hji
  ·exact hy.wpOp hi hS ⟨fun _=>hS,H⟩
  obtain ⟨hun,oj,hoj,_⟩:=mem_ready.1 hj
  have hno:=ready_waits hr hj hoj
  have hjt:j≠t:=by
   rintro rfl
   obtain ⟨e,he,hb,hon⟩:=hwait oj hoj
   exact hno e he hb hon
  have step:=wpOp_putIf hoj (hfree j oj hoj hji hun hno) (fun cs b=>hsel i oi cs b hi) (fun cs b=>hsel j oj cs b hoj) hQ hy (H.2 j (ready_mono hj hji))
  refine wpOp_mono (fun a' w' ⟨hy',hS',hrest⟩=>⟨hS',ih _ a' w' (fun k ok hk hki hunk hnk=>?_) (ready_mono hr (fun e=>hji e.symm)) hy' (hS' hjt) hit ?_⟩) step
  ·refine hfree k ok hk hki ?_ hnk
   rcases Decidable.em (j=k) with rfl | hjk
   ·exact hun
   ·rwa [getD_set_ne true hjk] at hunk
  ·rw [Array.setIfInBounds_comm _ _ hji]
   exact hrest
def waitsB (md:Region.Mode) (ops:Array Oper) (t i:Nat):Bool :=
 match ops[t]? with
 | some o=>o.after.any fun e=>Region.binds md e && e.on == i
 | none=>true
theorem take_till {i:Nat} {oi:Oper} (d:Option Tmp) (v:Value) {n:Nat} {listed:Array Bool} {a:Act} {w:World} (hi:ops[i]? = some oi) (hd:oi.dst=d) (hs:Region.noSelect ops=true) (hf:Region.free md ops listed i=true)
  (hr:(Region.ready md ops listed).contains i=true) (hwt:waitsB md ops t i=true) (hit:i≠t) (hQ:∀ c a w,Q (.panic c) (a.put d v) w→Q (.panic c) a w)
  (hw:Region.wanted oi (yielded ops a.tmps)=true) (hy:∀ w,S w→(execOp a.eval oi).run P w = .ok (.value v) w) (hS:S w)
  (h:AnyTill P md ops Q S t n (listed.setIfInBounds i true) (a.put d v) w):AnyTill P md ops Q S t (n+1) listed a w:=by
 subst hd
 refine AnyTill.first hi (fun ot hot=>?_) (Region.noSelect_spec hs) hQ n listed a w (Region.free_spec hi hf) (by simpa using hr) (.inl ⟨hw,hy⟩) hS hit h
 unfold waitsB at hwt
 rw [hot] at hwt
 obtain ⟨e,he,hb⟩:=Array.any_eq_true'.1 hwt
 simp only [Bool.and_eq_true,beq_iff_eq] at hb
 exact ⟨e,he,hb.1,hb.2⟩
theorem skip_till {i:Nat} {oi:Oper} (d:Option Tmp) {n:Nat} {listed:Array Bool} {a:Act} {w:World} (hi:ops[i]? = some oi) (hd:oi.dst=d) (hs:Region.noSelect ops=true) (hf:Region.free md ops listed i=true)
  (hr:(Region.ready md ops listed).contains i=true) (hwt:waitsB md ops t i=true) (hit:i≠t) (hQ:∀ c a w,Q (.panic c) (a.put d undef) w→Q (.panic c) a w)
  (hw:Region.wanted oi (yielded ops a.tmps)=false) (hS:S w)
  (h:AnyTill P md ops Q S t n (listed.setIfInBounds i true) (a.put d undef) w):AnyTill P md ops Q S t (n+1) listed a w:=by
 subst hd
 refine AnyTill.first hi (fun ot hot=>?_) (Region.noSelect_spec hs) hQ n listed a w (Region.free_spec hi hf) (by simpa using hr) (.inr ⟨hw,rfl⟩) hS hit h
 unfold waitsB at hwt
 rw [hot] at hwt
 obtain ⟨e,he,hb⟩:=Array.any_eq_true'.1 hwt
 simp only [Bool.and_eq_true,beq_iff_eq] at hb
 exact ⟨e,he,hb.1,hb.2⟩
theorem next_till (i:Nat) {o:Oper} {n:Nat} {listed:Array Bool} {a:Act} {w:World} (hr:Region.ready md ops listed=[i]) (ho:ops[i]? = some o)
  (h:∀ K:Act→World→Prop,Shut (∀ a w,(i≠t→S w)→AnyTill P md ops Q S t n (listed.setIfInBounds i true) a w→K a w)→if Region.wanted o (yielded ops a.tmps)=true then Oper.wp P o a w K Q else K (a.put o.dst undef) w) :
  AnyTill P md ops Q S t (n+1) listed a w:=by
 refine ⟨fun h0=>(by rw [hr] at h0; cases h0),fun j hj=>?_⟩
 rw [hr] at hj
 obtain rfl:j=i:=by simpa using hj
 exact wpOp_step ho (fun K hK=>h K (fun a w hS hW=>hK a w ⟨hS,hW⟩))
theorem done_till {listed:Array Bool} {a:Act} {w:World} (hr:Region.ready md ops listed=[]) (h:Q .normal a w):∀ n,AnyTill P md ops Q S t n listed a w
 | 0=>⟨hr,h⟩
 | _+1=>⟨fun _=>h,by rw [hr]; simp⟩
theorem region_till {id:Nat} {a:Act} {w:World} (t:Nat) (S:World→Prop) (hm:P.follows .mixedOrders=true) (hS:S w.drew)
  (h:S w.drew→AnyTill P .any ops Q S t ops.size (Array.replicate ops.size false) a w.drew):(Code.region id ops true).wp P Q a w :=
 wp_region_any hm (AnyTill.any _ _ _ _ (h hS))
theorem wp_append_run {o:Oper} {a:Act} {w w':World} {v x v':Value} {K:Act→World→Prop} (sl xl:Operand) (ty:TypeId) (ho:o.op = .call { callee:=.builtin .append,args := #[sl,xl],argTypes := #[ty,ty] }) (hs:a.eval sl=v) (hx:a.eval xl=x)
  (hr:(Builtin.append_ #[ty,ty] o.type #[v,x]).run P w = .ok v' w') (h:K (a.put o.dst v') w'):Oper.wp P o a w K Q:=by
 unfold Oper.wp execOp
 simp only [ho,resolve,invoke,builtin,Sem.run_bind,Sem.run_pure,Result.andThen_ok,List.map_toArray,List.map_cons,List.map_nil,hs,hx,hr]
 exact h
theorem rows_wide {n:Nat} {row:String} {args:Array Value} {w:World} {R:Value→World→Prop} (h:Rows P row args w R):RowsIn Fence.wide n P row args w R :=
 fun c cs _=>let ⟨v,w',r,s⟩:=h c cs; ⟨v,w',r,stepsIn_wide.2 s⟩
theorem oper_round {l n:Nat} {o:Oper} {a:Act} {w:World} {K:Act→World→Prop} (hnd:∀ c,o.op ≠ .defer c) (h:Oper.wp P o a w K Q):o.wpIn (Fence.wide.inRound l) n P a w K Q:=by
 refine ⟨fun _ _=>trivial,?_⟩
 unfold Oper.wp at h
 have e:o.semAt (Fence.wide.inRound l).round a.eval=execOp a.eval o:=Oper.semAt_some l a.eval o hnd
 rw [e]
 generalize (execOp a.eval o).run P w=r at h ⊢
 cases r with
 | ok x w' =>
  cases x
  case enter f args=>exact ⟨fun hh=>(by cases hh),CallsIn.inRound l (callsIn_wide.2 (Calls.mono h (fun e w'' he=>(by cases e <;> exact he))))⟩
  case row row args=>exact ⟨fun hh=>(by cases hh),rows_wide h⟩
  all_goals first | exact h | exact h.elim
 | halt x w'=>cases x <;> first | exact h | exact h.elim
theorem any_round {l n:Nat} (hnd:∀ (i:Nat) (o:Oper),ops[i]? = some o→∀ c,o.op ≠ .defer c) (hlo:¬ LetsOut Q):∀ (k:Nat) (listed:Array Bool) (a:Act) (w:World),wpAny P md ops Q k listed a w→wpAnyIn (Fence.wide.inRound l) n P md ops Q k listed a w
 | 0,_,_,_,h=>h
 | k+1,listed,a,w,h=>by
  refine ⟨h.1,fun i hi=>?_⟩
  have hop:=h.2 i hi
  unfold wpOp at hop
  unfold wpOpIn
  split
  ·rename_i ho
   simp only [ho] at hop
   exact any_round hnd hlo k _ a w hop
  ·rename_i o ho
   simp only [ho] at hop
   split
   ·rename_i hw
    simp only [hw,if_true] at hop
    rcases hop with hop | hop
    ·exact oper_round (hnd i o ho) (Oper.wp_mono (fun a w hh=>any_round hnd hlo k _ a w hh) hop)
    ·exact absurd hop.2 hlo
   ·rename_i hw
    simp only [hw] at hop
    exact ⟨fun _ _=>trivial,any_round hnd hlo k _ _ w hop⟩
def noDeferB (ops:Array Oper):Bool:=ops.all fun o=>match o.op with | .defer _=>false | _=>true
theorem noDefer_spec (h:noDeferB ops=true):∀ (i:Nat) (o:Oper),ops[i]? = some o→∀ c,o.op ≠ .defer c:=by
 intro i o hi c hc
 obtain ⟨hl,e⟩:=Array.getElem?_eq_some_iff.1 hi
 have:=Array.all_eq_true.1 h i hl
 rw [e,hc] at this
 cases this
theorem region_till_round {l n id:Nat} {a:Act} {w:World} (t:Nat) (S:World→Prop) (hm:P.follows .mixedOrders=true) (hnd:noDeferB ops=true) (hlo:¬ LetsOut Q) (hS:S w.drew)
  (h:S w.drew→AnyTill P .any ops Q S t ops.size (Array.replicate ops.size false) a w.drew):(Code.region id ops true).wpIn (Fence.wide.inRound l) n P Q a w :=
 wpIn_region_any hm (any_round (noDefer_spec hnd) hlo _ _ _ _ (AnyTill.any _ _ _ _ (h hS)))
end
section
variable {P:Program} {ops:Array Oper} {Q:Exit→Act→World→Prop} {md:Region.Mode} {S:World→Prop} {t:Nat}
def tkBZ (md:Region.Mode) (ops:Array Oper) (listed:Array Bool) (t i:Nat):Bool:=Region.noSelect ops && (Region.free md ops listed i && ((Region.ready md ops listed).contains i && (waitsB md ops t i && decide (i≠t))))
theorem tkZ {i:Nat} {oi:Oper} (d:Tmp) (v:Value) {n:Nat} {listed:Array Bool} {a:Act} {w:World} (hi:ops[i]? = some oi) (hd:oi.dst=some d) (hb:tkBZ md ops listed t i=true) (hQ:∀ c a w,Q (.panic c) (a.put (some d) v) w→Q (.panic c) a w)
  (hw:Region.wanted oi (yielded ops a.tmps)=true) (hy:∀ w,S w→(execOp a.eval oi).run P w = .ok (.value v) w) (hS:S w)
  (h:AnyTill P md ops Q S t n (listed.setIfInBounds i true) (a.put (some d) v) w):AnyTill P md ops Q S t (n+1) listed a w:=by
 unfold tkBZ at hb
 simp only [Bool.and_eq_true,decide_eq_true_eq] at hb
 exact take_till (some d) v hi hd hb.1 hb.2.1 hb.2.2.1 hb.2.2.2.1 hb.2.2.2.2 hQ hw hy hS h
end
end Go.Proofs.YtgkofgifoiinkaaGreat
namespace Go.Proofs.YtgkofgifoiinkaaGreat
open Go.RowKit
theorem or_add {a b K:Nat} (k:Nat) (hK:K=2 ^ k) (h:a < K):a ||| b*K=a+b*K:=by
 subst hK
 rw [Nat.mul_comm b,Nat.or_comm, ← Nat.two_pow_add_eq_or_of_lt h,Nat.add_comm]
theorem and_mask (s:Nat):s &&& 16711935=s % 256+s / 65536 % 256*65536:=by
 have e1:(16711935:Nat)=(2 ^ 8-1) ||| (2 ^ 8-1)*2 ^ 16:=by decide
 have e2:s &&& (2 ^ 8-1)*2 ^ 16=s / 65536 % 256*65536:=by
  apply Nat.eq_of_testBit_eq
  intro i
  rw [show s / 65536 % 256*65536=s / 2 ^ 16 % 2 ^ 8*2 ^ 16 from rfl]
  rw [Nat.testBit_and,Nat.testBit_mul_two_pow,Nat.testBit_mul_two_pow,Nat.testBit_two_pow_sub_one,Nat.testBit_mod_two_pow,Nat.testBit_div_two_pow]
  by_cases h1:16≤i
  ·rw [show i-16+16=i by omega]
   simp [h1,Bool.and_comm]
  ·simp [h1]
 rw [e1,Nat.and_or_distrib_left,Nat.and_two_pow_sub_one_eq_mod,e2,show s % 2 ^ 8=s % 256 from rfl,or_add 16 rfl (by omega)]
def rev32 (s:Nat):Nat:=s % 256*16777216+s / 256 % 256*65536+s / 65536 % 256*256+s / 16777216
theorem rev32_lt {s:Nat} (h:s < 4294967296):rev32 s < 4294967296:=by unfold rev32; omega
theorem ofNat_mod {a b:Nat} (h:a % 256=b % 256):UInt8.ofNat a=UInt8.ofNat b:=by
 apply UInt8.toNat_inj.1
 rw [UInt8.toNat_ofNat',UInt8.toNat_ofNat']
 exact h
theorem beL_rev (s:Nat) (h:s < 4294967296):beL (rev32 s) 4=four s:=by
 have key:∀ b0 b1 b2 b3:Nat,b0 < 256→b1 < 256→b2 < 256→b3 < 256→(b0*16777216+b1*65536+b2*256+b3) / 16777216 % 256=b0∧(b0*16777216+b1*65536+b2*256+b3) / 65536 % 256=b1 ∧
   (b0*16777216+b1*65536+b2*256+b3) / 256 % 256=b2∧(b0*16777216+b1*65536+b2*256+b3) % 256=b3:=by
  intro b0 b1 b2 b3 h0 h1 h2 h3
  refine ⟨by omega,by omega,by omega,by omega⟩
 obtain ⟨e0,e1,e2,e3⟩:=key (s % 256) (s / 256 % 256) (s / 65536 % 256) (s / 16777216) (by omega) (by omega) (by omega) (by omega)
 have e3:rev32 s % 256=s / 16777216 % 256:=by unfold rev32; rw [e3]; omega
 have e0:rev32 s / 16777216 % 256=s % 256:=e0
 have e1:rev32 s / 65536 % 256=s / 256 % 256:=e1
 have e2:rev32 s / 256 % 256=s / 65536 % 256:=e2
 simp only [beL,four,Nat.reduceMul,Nat.reducePow,Nat.div_one]
 rw [ofNat_mod e0,ofNat_mod e1,ofNat_mod e2,ofNat_mod e3]
theorem or_swap (a p q r:Nat):(a ||| q) ||| (p ||| r)=((a ||| p) ||| q) ||| r:=by
 rw [Nat.or_assoc, ← Nat.or_assoc q,Nat.or_comm q p,Nat.or_assoc p, ← Nat.or_assoc a p, ← Nat.or_assoc]
theorem or_bytes (a0 a1 a2 a3:Nat) (h0:a0 < 256) (h1:a1 < 256) (h3:a3 < 256) :
  (a1+a3*65536) ||| (a0+a2*65536)*256=a1+a0*256+a3*65536+a2*16777216:=by
 have e:(a0+a2*65536)*256=a0*256+a2*16777216:=by omega
 rw [e, ← or_add (a:=a1) (b:=a3) (K:=65536) 16 rfl (by omega), ← or_add (a:=a0*256) (b:=a2) (K:=16777216) 24 rfl (by omega),
  ← or_add (a:=a1+a0*256+a3*65536) (b:=a2) (K:=16777216) 24 rfl (by omega), ← or_add (a:=a1+a0*256) (b:=a3) (K:=65536) 16 rfl (by omega), ← or_add (a:=a1) (b:=a0) (K:=256) 8 rfl (by omega)]
 exact or_swap _ _ _ _
theorem rev_bits (s:Nat) (h:s < 4294967296) :
  bits .or .u32 (bits .or .u32 (bits .and .u32 ((s:Int) / 256) 16711935) (bits .and .u32 (s:Int) 16711935*256 % 4294967296) / 65536)
   (bits .or .u32 (bits .and .u32 ((s:Int) / 256) 16711935) (bits .and .u32 (s:Int) 16711935*256 % 4294967296)*65536 % 4294967296)=((rev32 s:Nat):Int):=by
 have a1:=u32_and_nat s 16711935 h (by decide)
 have a2:=u32_and_nat (s / 256) 16711935 (by omega) (by decide)
 rw [and_mask] at a1 a2
 rw [show ((16711935:Nat):Int)=16711935 from rfl] at a1 a2
 rw [Int.natCast_ediv,show ((256:Nat):Int)=256 from rfl] at a2
 rw [a1,a2]
 have d2:s / 256 / 65536 % 256=s / 16777216:=by omega
 rw [d2]
 have e0:s % 256 < 256:=by omega
 have e1:s / 256 % 256 < 256:=by omega
 have e2:s / 65536 % 256 < 256:=by omega
 have e3:s / 16777216 < 256:=by omega
 unfold rev32
 generalize s % 256=b0 at *
 generalize s / 256 % 256=b1 at *
 generalize s / 65536 % 256=b2 at *
 generalize s / 16777216=b3 at *
 have f1:((b0+b2*65536:Nat):Int)*256 % 4294967296=(((b0+b2*65536)*256:Nat):Int):=by omega
 rw [f1,u32_or_nat _ _ (by omega) (by omega),or_bytes b0 b1 b2 b3 e0 e1 e3]
 have f2:((b1+b0*256+b3*65536+b2*16777216:Nat):Int) / 65536=((b3+b2*256:Nat):Int):=by omega
 have f3:((b1+b0*256+b3*65536+b2*16777216:Nat):Int)*65536 % 4294967296=(((b1+b0*256)*65536:Nat):Int):=by omega
 rw [f2,f3,u32_or_nat _ _ (by omega) (by omega),or_add 16 rfl (by omega)]
 congr 1
 omega
set_option maxHeartbeats 400000 in
theorem reverse_any (s:Nat) (w:World) (hs:s < 4294967296) :
  Calls Tryz.prog 204 #[.int .u32 (s:Int)] w fun e w'=>e = .returned (.int .u32 (rev32 s:Nat))∧w=w':=by
 have H:=Lib.hid (rev_bits s hs)
 go_enter Tryz.func204,Tryz.ntmps204
 go_wp2
 go_ret
 exact ⟨by rw [← H.out]; rfl,rfl⟩
set_option maxHeartbeats 400000 in
theorem blkLowest_any (s:Nat) (w:World) (hs:s < 4294967296) :
  Calls Tryz.prog 173 #[.int .u32 (s:Int)] w (Gives w (four s)):=by
 have hr:=rev32_lt hs
 have H:=Lib.hid (beL_rev s hs)
 go_enter Tryz.func173,Tryz.ntmps173
 go_wp2_with fail
 refine (reverse_any s _ hs).mono ?_
 rintro e w1 ⟨rfl,rfl⟩
 generalize rev32 s=r at *
 go_wp2_with fail
 refine (put_any r 4 _ (Bs.nil _) (by simp)).mono ?_
 rintro e w1 ⟨v,rfl,ho,hb⟩
 have ho':Ow w1 w.heap.size 5 v (four s):=by rw [← H.out]; exact ho
 go_wp2
 go_ret
 exact ⟨_,rfl,ho',hb⟩
theorem zero_block:∀ w:World,(zeroValue 234).run Tryz.prog w = .ok (.agg (bvs (List.replicate 512 0)).toArray) w:=fun w=>by kernel_rfl
def SealsOk (w:World) (k:UInt8) (l:List UInt8) (e:Ending) (w':World):Prop :=
 ∃ v,e = .returned (.tuple #[v, .int .i64 0])∧Ow w' w.heap.size 234 v (sealL k l)∧Below w.heap.size w w'
theorem splice_at (a b c m:List UInt8) (o:Nat) (ha:a.length=o) (hb:b.length=m.length):splice (a++(b++c)) o m=a++(m++c):=by
 subst ha
 unfold splice
 rw [List.take_left, ← hb, ← List.append_assoc a b c,show a.length+b.length=(a++b).length by simp,List.drop_left]
set_option maxHeartbeats 1000000 in
theorem blkSeal_ok {b:Value} {l:List UInt8} (k:UInt8) (w:World) (hb:Bs w b l) (h0:k≠0) (hl:l.length≤505) :
  Calls Tryz.prog 137 #[.int .u8 (k.toNat:Int),b] w (SealsOk w k l):=by
 have hk:¬ (k.toNat:Int)=0:=fun h=>h0 (UInt8.toNat_inj.1 (by rw [show (0:UInt8).toNat=0 from rfl]; omega))
 obtain ⟨a,cap,rfl,hb⟩:=hb.shape
 obtain ⟨Z,hZ⟩:∃ Z,Z=List.replicate 512 (0:UInt8):=⟨_,rfl⟩
 have hz:=zero_block
 rw [← hZ] at hz
 have HZ:=Lib.hid hZ
 clear hZ
 have hA:=Arr.new w 234 Z
 have hbl:=(Below.refl w.heap.size w).alloc (Nat.le_refl _) (.cells (bvs Z).toArray 234)
 have hc:=hA.cell 0 (by rw [HZ.out,List.length_replicate]; decide)
 go_enter Tryz.func137,Tryz.ntmps137
 go_wp2_with fail
 have e1:(bvs Z).set 0 (Value.int .u8 (k.toNat:Int))=bvs ([k]++(List.replicate 2 0++List.replicate 509 0)):=by
  rw [HZ.out]
  rfl
 rw [e1]
 have A1:=Arr.new w 234 ([k]++(List.replicate 2 0++List.replicate 509 0))
 have b1:=(Below.refl w.heap.size w).alloc (Nat.le_refl _) (.cells (bvs ([k]++(List.replicate 2 0++List.replicate 509 0))).toArray 234)
 clear e1 hc hA hbl hz HZ
 generalize w.alloc (.cells (bvs ([k]++(List.replicate 2 0++List.replicate 509 0))).toArray 234)=w1 at *
 have hS:True:=trivial
 have hw64:IntKind.u64.wrap (l.length:Int)=l.length:=IntWalk.u64_in _ (by omega)
 refine region_till 99 (fun _=>True) (by kernel_rfl) hS (fun hS=>?_)
 refine tkZ (i:=0) 14 (.slice (some ⟨w.heap.size,1,none⟩) 511 511) rfl rfl (by kernel_rfl) (fun _ _ _ h=>h) (by rfl) (fun W hW=>?_) hS ?_
 ·skip
  clear hW
  go_simp
 simp only [Act.put,sAZ,sBZ,sCZ]
 refine tkZ (i:=1) 15 (.slice a l.length cap) rfl rfl (by kernel_rfl) (fun _ _ _ h=>h) (by rfl) (fun W hW=>?_) hS ?_
 ·skip
  clear hW
  go_simp
 simp only [Act.put,sAZ,sBZ,sCZ]
 refine tkZ (i:=2) 16 (.int .i64 l.length) rfl rfl (by kernel_rfl) (fun _ _ _ h=>h) (by rfl) (fun W hW=>?_) hS ?_
 ·skip
  clear hW
  go_simp
 simp only [Act.put,sAZ,sBZ,sCZ]
 refine tkZ (i:=3) 17 (.int .u64 l.length) rfl rfl (by kernel_rfl) (fun _ _ _ h=>h) (by rfl) (fun W hW=>?_) hS ?_
 ·skip
  clear hW
  go_simp
 simp only [Act.put,sAZ,sBZ,sCZ]
 refine next_till 4 (by kernel_rfl) rfl (fun K hK=>?_)
 go_simp
 have b1d:Below w.heap.size w w1.drew:=below_drewN b1 1
 have A1d:Arr w1.drew w.heap.size 234 _:=A1
 have hlt:w.heap.size < w1.drew.heap.size:=A1.lt
 clear A1 b1
 generalize w1.drew=w2 at *
 refine (put_any l.length 2 _ (Bs.nil _) (by simp)).mono ?_
 rintro e w3 ⟨v3,rfl,o3,b3⟩
 have A3:=A1d.below b3 hlt
 have o3':Bs w3 v3 (beL l.length 2):=o3.bs
 have b3':=b1d.trans (b3.mono b1d.size)
 clear A1d b1d b3 o3 hlt
 refine hK.out _ _ (fun _=>trivial) ?_
 clear hK K
 refine next_till 5 (by kernel_rfl) rfl (fun K hK=>?_)
 refine step_copy_bs bt rfl (.tmp 14) (.tmp 18) rfl w.heap.size 1 511 511 234 _ _ v3 rfl rfl o3' A3 (by rw [beL_length]; decide) (by simp only [List.length_append,List.length_replicate,beL_length,List.length_cons,List.length_nil]; omega) w.heap.size w b3' (Nat.le_refl _) ?_
 intro w4 A4 b4
 rw [splice_at [k] (List.replicate 2 0) (List.replicate 509 0) (beL l.length 2) 1 rfl (by simp [beL_length])] at A4
 clear A3 b3' o3'
 refine hK.out _ _ (fun _=>trivial) ?_
 simp only [Act.put,List.setIfInBounds_toArray]
 clear hK K
 refine done_till (by kernel_rfl) ?_ _
 have hb4:Bs w4 (.slice a l.length cap) l:=hb.below b4
 have e4:[k]++(beL l.length 2++List.replicate 509 0)=([k]++beL l.length 2)++(List.replicate l.length 0++(List.replicate (505-l.length) 0++List.replicate 4 0)):=by
  rw [← List.append_assoc, ← List.append_assoc (List.replicate l.length 0),List.replicate_append_replicate,List.replicate_append_replicate]
  congr 2
  omega
 rw [e4] at A4
 have hin4:3+l.length≤(([k]++beL l.length 2)++(List.replicate l.length 0++(List.replicate (505-l.length) 0++List.replicate 4 0))).length:=by simp [beL_length]; omega
 have hfit4:l.length≤509:=by omega
 clear e4
 go_wp2_with (refine wpList_copy_bs bt rfl (.tmp 20) (.tmp 21) rfl w.heap.size 3 509 509 234 _ _ (.slice a l.length cap) rfl rfl hb4 A4 hfit4 hin4 w.heap.size w b4 (Nat.le_refl _) ?_; intro w5 A5 b5)
 rw [splice_at ([k]++beL l.length 2) (List.replicate l.length 0) _ l 3 (by simp [beL_length]) (by simp)] at A5
 clear A4 b4 hb4 hin4 hfit4
 rw [← List.append_assoc l, ← List.append_assoc,show [k]++beL l.length 2++(l++List.replicate (505-l.length) 0)=aheadL k l by simp [aheadL]] at A5
 have hal:=aheadL_length (k:=k) hl
 have hsn:=sumN_lt (aheadL k l)
 have s5:Bs w5 (.slice (some ⟨w.heap.size,0,none⟩) 508 512) (aheadL k l):=by
  have:=A5.bs 0 508 512 (by rw [List.length_append,hal]; decide) (by decide) (by decide)
  rw [List.drop_zero,show List.take 508 (aheadL k l++List.replicate 4 0)=aheadL k l by rw [← hal,List.take_left]] at this
  exact this
 have HF:=Lib.hid (show aheadL k l++four (sumN (aheadL k l))=sealL k l from rfl)
 have HL:=Lib.hid (sealL_length (k:=k) hl)
 generalize aheadL k l=h at *
 have Hal:=Lib.hid hal
 clear hal
 simp only [Act.put,sAZ,sBZ,sCZ]
 refine region_till 99 (fun _=>True) (by kernel_rfl) hS (fun hS=>?_)
 refine tkZ (i:=0) 23 (.slice (some ⟨w.heap.size,508,none⟩) 4 4) rfl rfl (by kernel_rfl) (fun _ _ _ h=>h) (by rfl) (fun W hW=>?_) hS ?_
 ·skip
  clear hW
  go_simp
 simp only [Act.put,sAZ,sBZ,sCZ]
 refine tkZ (i:=1) 24 (.slice (some ⟨w.heap.size,0,none⟩) 508 512) rfl rfl (by kernel_rfl) (fun _ _ _ h=>h) (by rfl) (fun W hW=>?_) hS ?_
 ·skip
  clear hW
  go_simp
 simp only [Act.put,sAZ,sBZ,sCZ]
 refine next_till 2 (by kernel_rfl) rfl (fun K hK=>?_)
 go_simp
 have b5d:Below w.heap.size w w5.drew:=below_drewN b5 1
 have A5d:Arr w5.drew w.heap.size 234 _:=A5
 have s5d:Bs w5.drew (.slice (some ⟨w.heap.size,0,none⟩) 508 512) h:=s5.drewN 1
 clear A5 b5 s5
 generalize w5.drew=w6 at *
 refine (sum_any _ s5d).mono ?_
 rintro e w7 ⟨rfl,rfl⟩
 generalize sumN h=s at *
 refine hK.out _ _ (fun _=>trivial) ?_
 clear hK K
 refine next_till 3 (by kernel_rfl) rfl (fun K hK=>?_)
 go_simp
 refine (blkLowest_any s _ hsn).mono ?_
 rintro e w7 ⟨v7,rfl,o7,b7⟩
 have A7:=A5d.below b7 A5d.lt
 have o7':Bs w7 v7 (four s):=o7.bs
 have b7':=b5d.trans (b7.mono b5d.size)
 clear A5d b5d b7 o7 s5d
 refine hK.out _ _ (fun _=>trivial) ?_
 clear hK K
 refine next_till 4 (by kernel_rfl) rfl (fun K hK=>?_)
 refine step_copy_bs bt rfl (.tmp 23) (.tmp 26) rfl w.heap.size 508 4 4 234 _ _ v7 rfl rfl o7' A7 (Nat.le_refl 4) (by rw [List.length_append,Hal.out]; exact Nat.le_refl 512) w.heap.size w b7' (Nat.le_refl _) ?_
 intro w8 A8 b8
 have e8:=splice_at h (List.replicate 4 0) [] (four s) 508 Hal.out rfl
 rw [List.append_nil,List.append_nil] at e8
 rw [e8,HF.out] at A8
 clear A7 b7' o7' e8
 refine hK.out _ _ (fun _=>trivial) ?_
 simp only [Act.put,List.setIfInBounds_toArray]
 clear hK K
 refine done_till (by kernel_rfl) ?_ _
 have o8:=A8.ow (base:=w.heap.size) (Nat.le_refl _) (by rw [HL.out]; decide)
 rw [HL.out] at o8
 go_wp2
 go_ret2
 exact ⟨_,rfl,o8,b8⟩
set_option maxHeartbeats 400000 in
theorem blkSeal_zero {b:Value} {l:List UInt8} (w:World) (hb:Bs w b l) :
  Calls Tryz.prog 137 #[.int .u8 0,b] w fun e w'=>e = .returned (.tuple #[.slice none 0 0, .int .i64 1])∧w=w':=by
 obtain ⟨a,cap,rfl,hb⟩:=hb.shape
 go_enter Tryz.func137,Tryz.ntmps137
 go_wp2
 go_ret2
 exact ⟨rfl,rfl⟩
set_option maxHeartbeats 400000 in
theorem blkSeal_many {b:Value} {l:List UInt8} (k:UInt8) (w:World) (hb:Bs w b l) (h0:k≠0) (hl:505 < l.length) :
  Calls Tryz.prog 137 #[.int .u8 (k.toNat:Int),b] w fun e w'=>e = .returned (.tuple #[.slice none 0 0, .int .i64 6])∧w=w':=by
 have hk:¬ (k.toNat:Int)=0:=fun h=>h0 (UInt8.toNat_inj.1 (by rw [show (0:UInt8).toNat=0 from rfl]; omega))
 obtain ⟨a,cap,rfl,hb⟩:=hb.shape
 go_enter Tryz.func137,Tryz.ntmps137
 go_wp2
 go_ret2
 exact ⟨rfl,rfl⟩
end Go.Proofs.YtgkofgifoiinkaaGreat
