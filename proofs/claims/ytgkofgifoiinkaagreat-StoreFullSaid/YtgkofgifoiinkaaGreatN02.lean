/- Things of whatever kind that a call gathers in a row of its own; conditions: fewer than four thousand millions. -/
import Derived.Test.YtgkofgifoiinkaaGreatN01
import Derived.Maps.AppendAt
import Derived.Lib.Bytealg
namespace Go.Proofs.YtgkofgifoiinkaaGreat
open Go.RowKit
structure Step (S:Nat→Prop) (w w':World) (S':Nat→Prop):Prop where
 only:Only S w w'
 more:∀ q,S' q→S q∨w.heap.size≤q
section
variable {S S' S'':Nat→Prop} {w w' w'':World}
theorem Step.refl (S:Nat→Prop) (w:World):Step S w w S:=⟨Only.refl _ _,fun _ h=>.inl h⟩
theorem Step.trans (h:Step S w w' S') (k:Step S' w' w'' S''):Step S w w'' S'' :=
 ⟨h.only.then k.only h.more,fun q hq=>by
  rcases k.more q hq with h1 | h1
  ·exact h.more q h1
  ·exact .inr (Nat.le_trans h.only.size h1)⟩
theorem Step.of_below (h:Below w.heap.size w w') (S:Nat→Prop):Step S w w' S:=⟨Only.of_below h S,fun _ h=>.inl h⟩
theorem Step.size (h:Step S w w' S'):w.heap.size≤w'.heap.size:=h.only.size
theorem Step.bel (h:Step S w w' S') (k:Below w'.heap.size w' w''):Step S w w'' S':=h.trans (Step.of_below k S')
theorem Step.drewN (h:Step S w w' S') (n:Nat):Step S w (w'.drewN n) S':=⟨h.only.drewN n,h.more⟩
theorem Step.drew (h:Step S w w' S'):Step S w w'.drew S':=⟨h.only.drew,h.more⟩
theorem Step.alloc (h:Step S w w' S') (o:Obj):Step S w (w'.alloc o) S':=⟨h.only.alloc o,h.more⟩
theorem Step.set (h:Step S w w' S') {p:Addr} (hp:S' p.block) (u:Value):Step S w (w'.setCell p u) S':=h.trans ⟨(Only.refl _ _).setCell (.inl hp) u,fun _ h=>.inl h⟩
theorem Step.weak (h:Step S w w' S') (hs:∀ q,S'' q→S' q):Step S w w' S'':=⟨h.only,fun q hq=>h.more q (hs q hq)⟩
theorem Step.grow {F:Nat→Prop} (h:Only F w w') (hF:∀ q,F q→S q) (hS:∀ q,S' q→S q∨w.heap.size≤q):Step S w w' S':=⟨h.mono fun q _ hq=>hF q hq,hS⟩
end
theorem below_drewN {n:Nat} {w w':World} (h:Below n w w') (k:Nat):Below n w (w'.drewN k):=⟨h.os,h.tape,h.output,h.size,h.block⟩
theorem addr_add_block (a:Addr) (n:Nat):(a.add n).block=a.block:=by
 unfold Addr.add
 split <;> rfl
def Bsf (w:World) (S:Nat→Prop) (v:Value) (l:List UInt8):Prop:=Bs w v l∧(l≠[]→∀ q,v.ownBlock=some q→¬ S q)
theorem Bsf.bs {w:World} {S:Nat→Prop} {v:Value} {l:List UInt8} (h:Bsf w S v l):Bs w v l:=h.1
theorem Bs.empty {w w':World} {v:Value} (h:Bs w v []):Bs w' v []:=by
 obtain ⟨a,cap,h1,h2,h3,h4,h5⟩:=h
 exact ⟨a,cap,h1,h2,h3,h4,fun ad had i u hu=>by simp [bvs] at hu⟩
theorem Bs.in_heap {w:World} {v:Value} {l:List UInt8} (h:Bs w v l) (hne:l≠[]) {q:Nat} (hq:v.ownBlock=some q):q < w.heap.size:=by
 obtain ⟨b,o,cap,rfl,_,hb,_⟩:=h.open (List.length_pos_iff.2 hne)
 cases hq
 exact hb
theorem Bsf.step {w w':World} {S S':Nat→Prop} {v:Value} {l:List UInt8} (h:Bsf w S v l) (hs:Step S w w' S'):Bsf w' S' v l:=by
 by_cases hl:l=[]
 ·subst hl
  exact ⟨h.1.empty,fun h=>absurd rfl h⟩
 ·refine ⟨h.1.only hs.only (h.2 hl),fun _ q hq hq'=>?_⟩
  rcases hs.more q hq' with h1 | h1
  ·exact h.2 hl q hq h1
  ·have:=h.1.in_heap hl hq
   omega
theorem Bsf.nil (w:World) (S:Nat→Prop):Bsf w S (.slice none 0 0) []:=⟨Bs.nil w,fun h=>absurd rfl h⟩
theorem Bsf.new {w w':World} {S:Nat→Prop} {e:TypeId} {v:Value} {l:List UInt8} (h:Ow w' w.heap.size e v l) (hS:∀ q,S q→q < w.heap.size):Bsf w' S v l :=
 ⟨h.bs,fun _ q hq hs=>by
  have:=(World.ownsRow.lt h q hq).1
  have:=hS q hs
  omega⟩
def Rw (w:World) (v:Value) (n sz:Nat) (cs:List Value):Prop :=
 ∃ a cap,v = .slice a n cap∧n≤cap∧cap≤maxLen∧(a=none→cap=0)∧cs.length=n*sz∧∀ ad,a=some ad→∀ j u,cs[j]? = some u→w.cell? (ad.add j)=some u
section
variable {w w':World} {v:Value} {n sz:Nat} {cs:List Value} {S S':Nat→Prop}
theorem Rw.nil (w:World) (sz:Nat):Rw w (.slice none 0 0) 0 sz []:=⟨none,0,rfl,Nat.le_refl _,Nat.zero_le _,fun _=>rfl,by simp,fun _ h=>by cases h⟩
theorem Rw.shape (h:Rw w v n sz cs):∃ a cap,v = .slice a n cap∧n≤cap∧cap≤maxLen:=let ⟨a,cap,h1,h2,h3,_⟩:=h; ⟨a,cap,h1,h2,h3⟩
theorem Rw.open (h:Rw w v n sz cs) (hn:0 < n) (hs:0 < sz):∃ b o cap,v = .slice (some ⟨b,o,none⟩) n cap∧n≤cap∧cap≤maxLen∧b < w.heap.size∧∀ j u,cs[j]? = some u→w.cell? ⟨b,o+j,none⟩=some u:=by
 obtain ⟨a,cap,rfl,h1,h2,h3,h4,h5⟩:=h
 rcases a with _ | ⟨b,o,s⟩
 ·have:=h3 rfl; omega
 ·have hp:0 < cs.length:=by rw [h4]; exact Nat.mul_pos hn hs
  have h0:=h5 _ rfl 0 cs[0] (List.getElem?_eq_getElem hp)
  have hs:s=none:=by simpa [Addr.add] using World.cell?_spot h0
  subst hs
  refine ⟨b,o,cap,rfl,h1,h2,?_,fun j u hu=>?_⟩
  ·simpa [Addr.add] using World.block_lt_of_cell? w _ h0
  ·have:=h5 _ rfl j u hu
   rw [Addr.add_lit] at this
   exact this
theorem Rw.in_heap (h:Rw w v n sz cs) (hn:0 < n) (hs:0 < sz) {q:Nat} (hq:v.ownBlock=some q):q < w.heap.size:=by
 obtain ⟨b,o,cap,rfl,_,_,hb,_⟩:=h.open hn hs
 cases hq
 exact hb
theorem Rw.only (h:Rw w v n sz cs) (ho:Only S w w') (hd:0 < n→∀ q,v.ownBlock=some q→¬ S q):Rw w' v n sz cs:=by
 obtain ⟨a,cap,rfl,h1,h2,h3,h4,h5⟩:=h
 refine ⟨a,cap,rfl,h1,h2,h3,h4,fun ad had j u hu=>?_⟩
 subst had
 have hc:=h5 _ rfl j u hu
 have hj:=(List.getElem?_eq_some_iff.1 hu).1
 have hn:0 < n:=by
  rcases Nat.eq_zero_or_pos n with e | e
  ·subst e; omega
  ·exact e
 have:=ho.block (ad.add j).block (World.block_lt_of_cell? w _ hc) (by rw [addr_add_block]; exact hd hn _ rfl)
 exact (World.cell?_of_block this).trans hc
theorem Rw.part (h:Rw w v n sz cs) (lo hi:Nat) (hlh:lo≤hi) (hhi:hi≤n):∃ a cap,v = .slice a n cap∧Rw w (sliced a lo hi cap sz) (hi-lo) sz ((cs.take (hi*sz)).drop (lo*sz)):=by
 obtain ⟨a,cap,rfl,h1,h2,h3,h4,h5⟩:=h
 refine ⟨a,cap,rfl,if cap=lo then a else a.map (·.add (lo*sz)),cap-lo,rfl,by omega,by omega,?_,?_,?_⟩
 ·split
  ·intro _; omega
  ·intro h
   have:a=none:=by simpa using h
   have:=h3 this
   omega
 ·have hm:=Nat.mul_le_mul_right sz hhi
  simp only [List.length_drop,List.length_take,h4]
  rw [Nat.min_eq_left hm,Nat.sub_mul]
 ·intro ad had j u hu
  have hj:=(List.getElem?_eq_some_iff.1 hu).1
  have hm:=Nat.mul_le_mul_right sz hhi
  simp only [List.length_drop,List.length_take,h4] at hj
  rw [Nat.min_eq_left hm] at hj
  have hne:¬ cap=lo:=fun e=>by
   have e2:lo=hi:=by omega
   subst e2
   omega
  rw [if_neg hne] at had
  obtain ⟨a0,rfl,rfl⟩:=Option.map_eq_some_iff.1 had
  rw [Addr.add_add]
  apply h5 a0 rfl
  rw [← hu]
  simp only [List.getElem?_drop,List.getElem?_take]
  rw [if_pos (by omega)]
theorem Rw.of_own {base:Nat} {e:TypeId} (h:w.ownsRow base e sz v n cs):Rw w v n sz cs:=by
 have hc:=fun g (hg:v.ownBlock=some g)=>World.ownsRow.cells h hg
 have h1:=h.1
 rcases h.2 with ⟨rfl,h2⟩ | ⟨g,cap,cur,rfl,hb,hg,hn,hm,hcs,ht⟩
 ·subst h2
  have:cs=[]:=List.eq_nil_of_length_eq_zero (by simpa using h1)
  subst this
  exact Rw.nil w sz
 ·refine ⟨_,cap,rfl,hn,hm,(fun h=>by cases h),h1,fun ad had j u hu=>?_⟩
  cases had
  exact hc g rfl j u hu
end
structure Kd (τ α:Type) where
 sz:Nat
 pos:0 < sz
 cs:τ→List Value
 len:∀ t,(cs t).length=sz
 one:∀ t,∀ u∈cs t,u.oneCell'=true
 con:τ→α
 ok:World→(Nat→Prop)→τ→Prop
 step:∀ {w w':World} {S S':Nat→Prop} {t:τ},ok w S t→Step S w w' S'→ok w' S' t
def Kd.cells {τ α:Type} (K:Kd τ α) (ts:List τ):List Value:=ts.flatMap K.cs
def Rd {τ α:Type} (K:Kd τ α) (w:World) (S:Nat→Prop) (v:Value) (l:List α):Prop :=
 ∃ ts:List τ,ts.map K.con=l∧Rw w v l.length K.sz (K.cells ts)∧(∀ t∈ts,K.ok w S t)∧(l≠[]→∀ q,v.ownBlock=some q→¬ S q)
def Ro {τ α:Type} (K:Kd τ α) (e:TypeId) (w:World) (S:Nat→Prop) (v:Value) (l:List α):Prop :=
 ∃ ts:List τ,ts.map K.con=l∧w.ownsRow 0 e K.sz v l.length (K.cells ts)∧(∀ t∈ts,K.ok w S t)∧∀ q,v.ownBlock=some q→S q
section
variable {τ α:Type} {K:Kd τ α} {w w':World} {S S':Nat→Prop} {v:Value} {l m:List α}
theorem Kd.cells_length (K:Kd τ α) (ts:List τ):(K.cells ts).length=ts.length*K.sz:=by
 induction ts with
 | nil=>simp [Kd.cells]
 | cons t r ih =>
  unfold Kd.cells at *
  rw [List.flatMap_cons,List.length_append,ih,K.len,List.length_cons,Nat.succ_mul,Nat.add_comm]
theorem Kd.cells_append (K:Kd τ α) (ts us:List τ):K.cells (ts++us)=K.cells ts++K.cells us:=List.flatMap_append
theorem Kd.cells_one (K:Kd τ α) (ts:List τ):∀ u∈K.cells ts,u.oneCell'=true:=by
 intro u hu
 obtain ⟨t,_,ht⟩:=List.mem_flatMap.1 hu
 exact K.one t u ht
theorem Kd.cells_take (K:Kd τ α) (ts:List τ) (i:Nat):(K.cells ts).take (i*K.sz)=K.cells (ts.take i):=by
 induction ts generalizing i with
 | nil=>simp [Kd.cells]
 | cons t r ih =>
  rcases i with _ | i
  ·simp [Kd.cells]
  ·unfold Kd.cells at *
   rw [List.flatMap_cons,List.take_succ_cons,List.flatMap_cons, ← ih i,Nat.succ_mul,Nat.add_comm (i*K.sz),List.take_append]
   rw [K.len,List.take_of_length_le (by rw [K.len]; omega)]
   congr 2
   omega
theorem Kd.cells_drop (K:Kd τ α) (ts:List τ) (i:Nat):(K.cells ts).drop (i*K.sz)=K.cells (ts.drop i):=by
 have h1:K.cells ts=K.cells (ts.take i)++K.cells (ts.drop i):=by rw [← K.cells_append,List.take_append_drop]
 have h2:=K.cells_take ts i
 have h3:K.cells ts=(K.cells ts).take (i*K.sz)++(K.cells ts).drop (i*K.sz):=(List.take_append_drop _ _).symm
 rw [h2] at h3
 exact List.append_cancel_left (h3.symm.trans h1)
theorem Kd.cells_at (K:Kd τ α) {ts:List τ} {i:Nat} {t:τ} (h:ts[i]? = some t) {j:Nat} {u:Value} (hu:(K.cs t)[j]? = some u):(K.cells ts)[i*K.sz+j]? = some u:=by
 have h1:=K.cells_drop ts i
 obtain ⟨hi,e⟩:=List.getElem?_eq_some_iff.1 h
 rw [List.drop_eq_getElem_cons hi,e] at h1
 rw [← List.getElem?_drop,h1]
 unfold Kd.cells
 rw [List.flatMap_cons,List.getElem?_append_left (List.getElem?_eq_some_iff.1 hu).1]
 exact hu
theorem Rd.nil (K:Kd τ α) (w:World) (S:Nat→Prop):Rd K w S (.slice none 0 0) []:=⟨[],rfl,Rw.nil w _,(fun _ h=>by cases h),fun h=>absurd rfl h⟩
theorem Rd.shape (h:Rd K w S v l):∃ a cap,v = .slice a l.length cap∧l.length≤cap∧cap≤maxLen:=let ⟨_,_,h2,_⟩:=h; h2.shape
theorem Rd.len (h:Rd K w S v l):l.length≤9223372036854775807:=by
 obtain ⟨a,cap,_,h1,h2⟩:=h.shape
 unfold maxLen at h2
 omega
theorem Rd.in_heap (h:Rd K w S v l) (hl:l≠[]) {q:Nat} (hq:v.ownBlock=some q):q < w.heap.size:=let ⟨_,_,h2,_⟩:=h; h2.in_heap (List.length_pos_iff.2 hl) K.pos hq
theorem Rd.step (h:Rd K w S v l) (hs:Step S w w' S'):Rd K w' S' v l:=by
 obtain ⟨ts,h1,h2,h3,h4⟩:=h
 refine ⟨ts,h1,h2.only hs.only (fun hl=>h4 (List.length_pos_iff.1 hl)),fun t ht=>K.step (h3 t ht) hs,fun hl q hq hq'=>?_⟩
 rcases hs.more q hq' with h5 | h5
 ·exact h4 hl q hq h5
 ·have:=h2.in_heap (List.length_pos_iff.2 hl) K.pos hq
  omega
theorem Rd.at (h:Rd K w S v l) {i:Nat} {a:α} (ha:l[i]? = some a):∃ g o cap t,v = .slice (some ⟨g,o,none⟩) l.length cap∧K.con t=a∧K.ok w S t∧g < w.heap.size ∧
  (∀ j u,(K.cs t)[j]? = some u→w.cell? ⟨g,o+i*K.sz+j,none⟩=some u)∧¬ S g:=by
 obtain ⟨ts,h1,h2,h3,h4⟩:=h
 have hi:=(List.getElem?_eq_some_iff.1 ha).1
 obtain ⟨b,o,cap,rfl,_,_,hb,hc⟩:=h2.open (by omega) K.pos
 rw [← h1,List.getElem?_map] at ha
 obtain ⟨t,ht,e⟩:=Option.map_eq_some_iff.1 ha
 refine ⟨b,o,cap,t,rfl,e,h3 t (List.mem_of_getElem? ht),hb,fun j u hu=>?_,h4 (by intro e; rw [e] at hi; simp at hi) b rfl⟩
 rw [Nat.add_assoc]
 exact hc _ _ (K.cells_at ht hu)
theorem Rd.part (h:Rd K w S v l) (lo hi:Nat) (hlh:lo≤hi) (hhi:hi≤l.length):∃ a cap,v = .slice a l.length cap∧Rd K w S (sliced a lo hi cap K.sz) ((l.take hi).drop lo):=by
 obtain ⟨ts,h1,h2,h3,h4⟩:=h
 obtain ⟨a,cap,rfl,hp⟩:=h2.part lo hi hlh hhi
 refine ⟨a,cap,rfl,(ts.take hi).drop lo,?_,?_,fun t ht=>h3 t (List.mem_of_mem_take (List.mem_of_mem_drop ht)),fun hl q hq=>?_⟩
 ·rw [List.map_drop,List.map_take,h1]
 ·rw [K.cells_take,K.cells_drop] at hp
  have e:((l.take hi).drop lo).length=hi-lo:=by simp; omega
  rw [e]
  exact hp
 ·have hl':l≠[]:=by
   rintro rfl
   simp at hl
  refine h4 hl' q ?_
  rw [← hq]
  unfold sliced
  split
  ·rcases a with _ | ad <;> rfl
  ·rcases a with _ | ad
   ·rfl
   ·simp [Value.ownBlock,addr_add_block]
theorem Rd.upto {a:Option Addr} {n cap:Nat} (h:Rd K w S (.slice a n cap) l) (hi:Nat) (hhi:hi≤l.length):Rd K w S (.slice a hi cap) (l.take hi):=by
 obtain ⟨a',cap',e,hp⟩:=h.part 0 hi (Nat.zero_le _) hhi
 simp only [Value.slice.injEq] at e
 obtain ⟨rfl,_,rfl⟩:=e
 have e2:sliced a 0 hi cap K.sz = .slice a hi cap:=by
  unfold sliced
  split
  ·simp
  ·rcases a with _ | ad <;> simp [Addr.add]
 rw [e2] at hp
 simpa using hp
theorem Rd.from {a:Option Addr} {n cap:Nat} (h:Rd K w S (.slice a n cap) l) (lo:Nat) (hlo:lo≤l.length):Rd K w S (.slice (if cap=lo then a else a.map (·.add (lo*K.sz))) (l.length-lo) (cap-lo)) (l.drop lo):=by
 obtain ⟨a',cap',e,hp⟩:=h.part lo l.length hlo (Nat.le_refl _)
 simp only [Value.slice.injEq] at e
 obtain ⟨rfl,_,rfl⟩:=e
 rw [List.take_length] at hp
 exact hp
theorem Kd.less (K:Kd τ α) {t:τ} (h:K.ok w S t) (hs:∀ q,S' q→S q):K.ok w S' t:=K.step h ⟨Only.refl _ _,fun q hq=>.inl (hs q hq)⟩
theorem Rd.less (h:Rd K w S v l) (hs:∀ q,S' q→S q):Rd K w S' v l:=h.step ⟨Only.refl _ _,fun q hq=>.inl (hs q hq)⟩
theorem Ro.rd {e:TypeId} (h:Ro K e w S v l) (hs:∀ q,S' q→S q) (hv:∀ q,v.ownBlock=some q→¬ S' q):Rd K w S' v l:=by
 obtain ⟨ts,h1,h2,h3,h4⟩:=h
 exact ⟨ts,h1,Rw.of_own h2,fun t ht=>K.less (h3 t ht) hs,fun _ q hq=>hv q hq⟩
theorem Ro.own {e:TypeId} (h:Ro K e w S v l) {q:Nat} (hq:v.ownBlock=some q):q < w.heap.size:=let ⟨_,_,h2,_⟩:=h; (World.ownsRow.lt h2 q hq).2
theorem Ro.inS {e:TypeId} (h:Ro K e w S v l) {q:Nat} (hq:v.ownBlock=some q):S q:=let ⟨_,_,_,_,h4⟩:=h; h4 q hq
theorem Ro.nil (K:Kd τ α) (e:TypeId) (w:World) (S:Nat→Prop):Ro K e w S (.slice none 0 0) []:=⟨[],rfl,World.ownsRow_nil _ _ _ _,(fun _ h=>by cases h),fun q h=>by cases h⟩
theorem Ro.shape {e:TypeId} (h:Ro K e w S v l):∃ a cap,v = .slice a l.length cap∧l.length≤cap∧cap≤maxLen:=let ⟨_,_,h2,_⟩:=h; (Rw.of_own h2).shape
theorem ownsRow_kept {e:TypeId} {base sz n:Nat} {xs:List Value} (h:w.ownsRow base e sz v n xs) (hk:∀ g,v.ownBlock=some g→w'.heap[g]? = w.heap[g]?):w'.ownsRow base e sz v n xs:=by
 refine ⟨h.1,?_⟩
 rcases h.2 with h' | ⟨g,cap,cur,hv,hbg,hg,r⟩
 ·exact .inl h'
 ·exact .inr ⟨g,cap,cur,hv,hbg,(hk g (by rw [hv]; rfl)).trans hg,r⟩
theorem Ro.keep {e:TypeId} (h:Ro K e w S v l) (hk:∀ g,v.ownBlock=some g→w'.heap[g]? = w.heap[g]?) (hs:Step S w w' S') (hi:∀ q,S q→S' q):Ro K e w' S' v l:=by
 obtain ⟨ts,h1,h2,h3,h4⟩:=h
 exact ⟨ts,h1,ownsRow_kept h2 hk,fun t ht=>K.step (h3 t ht) hs,fun q hq=>hi q (h4 q hq)⟩
theorem Ro.below {e:TypeId} (h:Ro K e w S v l) (hb:Below w.heap.size w w'):Ro K e w' S v l:=h.keep (fun g hg=>hb.block g (h.own hg)) (Step.of_below hb S) fun _ h=>h
structure RowTy (P:Program) (K:Kd τ α) (t e:TypeId):Prop where
 slice:P.underlying t=some (.slice e)
 info:∃ i z,P.info? e=some i∧i.zero=some z∧i.size=K.sz∧z.cells.size=K.sz∧i.bytes≤1000
variable {P:Program} {t e:TypeId}
theorem RowTy.of {z:Value} {by':Nat} (h1:P.underlying t=some (.slice e)) (h2:(P.info? e).map (fun i=>(i.zero,i.size,i.bytes))=some (some z,K.sz,by')) (h3:z.cells.size=K.sz) (h4:by'≤1000):RowTy P K t e:=by
 obtain ⟨i,hi,h⟩:=Option.map_eq_some_iff.1 h2
 simp only [Prod.mk.injEq] at h
 exact ⟨h1,i,z,hi,h.1,h.2.1,h3,by rw [h.2.2]; exact h4⟩
def Sv (S:Nat→Prop) (v:Value) (q:Nat):Prop:=S q∨v.ownBlock=some q
theorem step_own {v':Value} (hg:w.grownBy w' v.ownBlock) (hv:∀ q,v.ownBlock=some q→S q) (hl:v'.ownBlock=v.ownBlock∨v'.ownBlock=some w.heap.size):Step S w w' (Sv S v') :=
 ⟨⟨hg.os,hg.tape,hg.output,hg.size,fun k hk hs=>hg.block k hk fun e=>hs (hv k e.symm)⟩,fun q hq=>by
  rcases hq with h | h
  ·exact .inl h
  ·rcases hl with h1 | h1
   ·exact .inl (hv q (h1 ▸ h))
   ·rw [h1] at h
    cases h
    exact .inr (Nat.le_refl _)⟩
theorem run_append_ro (T:RowTy P K t e) (ty:TypeId) {x:Value} (hv:Ro K e w S v l) (hx:Rd K w S x m) (hn:l.length+m.length≤4294967296) :
  ∃ v' w',(Builtin.append_ #[t,t] ty #[v,x]).run P w = .ok v' w'∧Ro K e w' (Sv S v') v' (l++m)∧Step S w w' (Sv S v')∧w.grownBy w' v.ownBlock∧(v'.ownBlock=v.ownBlock∨v'.ownBlock=some w.heap.size):=by
 obtain ⟨i,z,hi,hz,hsz,hzs,hby⟩:=T.info
 obtain ⟨ts,h1,h2,h3,h4⟩:=hv
 obtain ⟨us,k1,k2,k3,k4⟩:=hx
 obtain ⟨a,cap,rfl,g1,g2,g3,g4,g5⟩:=k2
 have hb63:(l.length+m.length)*i.bytes≤140737488355328:=Nat.le_trans (Nat.mul_le_mul hn hby) (by decide)
 have ht:∀ t'∈ts++us,K.ok w S t':=fun t' ht'=>by
  rcases List.mem_append.1 ht' with h | h
  ·exact h3 t' h
  ·exact k3 t' h
 rcases a with _ | ad
 ·have hc:=g3 rfl
  subst hc
  have hm:m=[]:=List.eq_nil_of_length_eq_zero (by omega)
  subst hm
  refine ⟨v,w,run_append_owned_none (P:=P) w 0 t ty e i K.sz T.slice hi v l.length _ h2,?_,?_,⟨rfl,rfl,rfl,Nat.le_refl _,fun _ _ _=>rfl⟩, .inl rfl⟩
  ·rw [List.append_nil]
   exact ⟨ts,h1,h2,fun t' ht'=>K.less (h3 t' ht') (fun q hq=>hq.elim id (h4 q)),fun q hq=>.inr hq⟩
  ·exact ⟨Only.refl _ _,fun q hq=>.inl (hq.elim id (h4 q))⟩
 ·obtain ⟨v',w',hr,ho,hg,_,hloc⟩:=run_append_own_at (P:=P) (w:=w) 0 t ty e i z K.sz i.bytes T.slice hi hz hsz rfl hzs K.pos v l.length _ h2 ad m.length cap (K.cells us) g4
   (g5 ad rfl) (K.cells_one us) (by unfold maxLen; omega) hb63 (Nat.zero_le _)
  have hst:=step_own hg h4 hloc
  refine ⟨v',w',hr,⟨ts++us,by rw [List.map_append,h1,k1],?_,fun t' ht'=>K.step (ht t' ht') hst,fun q hq=>.inr hq⟩,hst,hg,hloc⟩
  rw [List.length_append,K.cells_append]
  exact ho
theorem wpList_append_ro (T:RowTy P K t e) {ops:Array Oper} {rest:List Oper} {o:Oper} {a:Act} {Q:Exit→Act→World→Prop} (hgd:o.guard=none) (s x:Operand)
  (ho:o.op = .call { callee:=.builtin .append,args := #[s,x],argTypes := #[t,t] }) {xv:Value} (hs:a.eval s=v) (hx:a.eval x=xv)
  (hv:Ro K e w S v l) (hm:Rd K w S xv m) (hn:l.length+m.length≤4294967296)
  (h:∀ v' w',Ro K e w' (Sv S v') v' (l++m)→Step S w w' (Sv S v')→w.grownBy w' v.ownBlock→(v'.ownBlock=v.ownBlock∨v'.ownBlock=some w.heap.size)→wpList P ops Q rest (a.put o.dst v') w'):wpList P ops Q (o::rest) a w:=by
 obtain ⟨v',w',hr,h2,h3,h4,h5⟩:=run_append_ro T o.type hv hm hn
 refine wpList_plain hgd fun _ hK=>?_
 unfold Oper.wp execOp
 simp only [ho,resolve,invoke,builtin,Sem.run_bind,Sem.run_pure,Result.andThen_ok,List.map_toArray,List.map_cons,List.map_nil,hs,hx,hr]
 exact hK _ _ (h v' w' h2 h3 h4 h5)
theorem rd_lit (K:Kd τ α) (w:World) (e:TypeId) (S:Nat→Prop) (hS:∀ q,S q→q < w.heap.size) (ts:List τ) (cs:Array Value) (hcs:cs=(K.cells ts).toArray) (hok:∀ t∈ts,K.ok w S t) (hn:ts.length≤1000) {n:Nat} (hn':n=ts.length) :
  Rd K (w.alloc (.cells cs e)) S (.slice (some ⟨w.heap.size,0,none⟩) n n) (ts.map K.con):=by
 subst hcs; subst hn'
 refine ⟨ts,rfl,⟨_,ts.length,by rw [List.length_map],by rw [List.length_map]; exact Nat.le_refl _,by unfold maxLen; omega,(fun h=>by cases h),by rw [K.cells_length,List.length_map],fun ad had j u hu=>?_⟩,fun t ht=>K.step (hok t ht) ((Step.refl S w).alloc _),fun _ q hq hq'=>?_⟩
 ·cases had
  rw [Addr.add_lit,Nat.zero_add,(Cel.new w _ _).cell]
  exact hu
 ·cases hq
  have:=hS w.heap.size hq'
  omega
end
end Go.Proofs.YtgkofgifoiinkaaGreat
namespace Go.Proofs.YtgkofgifoiinkaaGreat
open Go.Lib (compareBytes)
def beNat (l:List UInt8):Nat:=l.foldl (fun n x=>n*256+x.toNat) 0
def beL (n:Nat):Nat→List UInt8
 | 0=>[]
 | k+1=>UInt8.ofNat (n / 2 ^ (8*k))::beL n k
theorem beL_length (n:Nat):∀ k,(beL n k).length=k
 | 0=>rfl
 | k+1=>by simp [beL,beL_length n k]
theorem foldl_acc (l:List UInt8):∀ a:Nat,l.foldl (fun n x=>n*256+x.toNat) a=a*256 ^ l.length+beNat l:=by
 induction l with
 | nil=>intro a; simp [beNat]
 | cons x l ih =>
  intro a
  have h1:=ih (a*256+x.toNat)
  have h2:=ih (0*256+x.toNat)
  simp only [beNat,List.foldl_cons,List.length_cons] at *
  rw [h1,h2,Nat.pow_succ]
  simp only [Nat.add_mul,Nat.zero_mul,Nat.zero_add,Nat.mul_assoc,Nat.mul_comm (256 ^ l.length) 256,Nat.add_assoc]
theorem beNat_cons (x:UInt8) (l:List UInt8):beNat (x::l)=x.toNat*256 ^ l.length+beNat l:=by
 have:=foldl_acc l (0*256+x.toNat)
 simp only [beNat,List.foldl_cons] at *
 rw [this]
 simp
theorem beNat_append (a b:List UInt8):beNat (a++b)=beNat a*256 ^ b.length+beNat b:=by
 unfold beNat
 rw [List.foldl_append,foldl_acc]
 rfl
theorem beNat_snoc (a:List UInt8) (x:UInt8):beNat (a++[x])=beNat a*256+x.toNat:=by
 rw [beNat_append]; simp [beNat]
theorem beNat_take_succ (l:List UInt8) (r:Nat) (x:UInt8) (h:l[r]? = some x):beNat (l.take (r+1))=beNat (l.take r)*256+x.toNat:=by
 rw [List.take_add_one,h]
 exact beNat_snoc _ _
theorem beNat_lt (l:List UInt8):beNat l < 256 ^ l.length:=by
 induction l with
 | nil=>simp [beNat]
 | cons x l ih =>
  rw [beNat_cons,List.length_cons,Nat.pow_succ]
  have h:=x.toNat_lt
  have h1:x.toNat*256 ^ l.length≤255*256 ^ l.length:=Nat.mul_le_mul_right _ (by omega)
  omega
theorem pow_256 (k:Nat):2 ^ (8*k)=256 ^ k:=by rw [Nat.pow_mul]
theorem beNat_beL (n:Nat):∀ k,beNat (beL n k)=n % 256 ^ k
 | 0=>by simp [beL,beNat,Nat.mod_one]
 | k+1=>by
  rw [beL,beNat_cons,beNat_beL n k,beL_length,pow_256,Nat.pow_succ,Nat.mod_mul,UInt8.toNat_ofNat']
  simp only [Nat.reducePow]
  rw [Nat.mul_comm,Nat.add_comm]
theorem beL_get (n:Nat):∀ (k r:Nat),r < k→(beL n k)[r]? = some (UInt8.ofNat (n / 2 ^ (8*(k-1-r))))
 | 0,r,h=>by omega
 | k+1,0,_=>by simp [beL]
 | k+1,r+1,h=>by
  have:=beL_get n k r (by omega)
  rw [beL,List.getElem?_cons_succ,this]
  have e:k-1-r=k+1-1-(r+1):=by omega
  rw [e]
theorem beL_take_succ (n k r:Nat) (h:r < k):(beL n k).take (r+1)=(beL n k).take r++[UInt8.ofNat (n / 2 ^ (8*(k-1-r)))]:=by
 rw [List.take_add_one,beL_get n k r h]
 rfl
theorem beL_take_all (n k:Nat):(beL n k).take k=beL n k:=List.take_of_length_le (by rw [beL_length]; omega)
theorem cmp_self:∀ a:List UInt8,compareBytes a a=0
 | []=>rfl
 | x::a=>by simp [compareBytes,cmp_self a]
theorem cmp_neg:∀ a b:List UInt8,compareBytes b a = - compareBytes a b
 | [],[]=>rfl
 | [],_::_=>rfl
 | _::_,[]=>rfl
 | x::a,y::b=>by
  simp only [compareBytes]
  by_cases h1:x < y
  ·have h2:¬ y < x:=by simp only [UInt8.lt_iff_toNat_lt] at *; omega
   simp [h1,h2]
  ·by_cases h2:y < x
   ·simp [h1,h2]
   ·simp [h1,h2,cmp_neg a b]
theorem cmp_eq_zero:∀ a b:List UInt8,compareBytes a b=0↔a=b
 | [],[]=>by simp [compareBytes]
 | [],_::_=>by simp [compareBytes]
 | _::_,[]=>by simp [compareBytes]
 | x::a,y::b=>by
  simp only [compareBytes,List.cons.injEq]
  by_cases h1:x < y
  ·have:x≠y:=by intro h; subst h; exact absurd h1 (UInt8.lt_irrefl x)
   simp [h1,this]
  ·by_cases h2:y < x
   ·have:x≠y:=by intro h; subst h; exact absurd h2 (UInt8.lt_irrefl x)
    simp [h1,h2,this]
   ·have:x=y:=UInt8.le_antisymm (UInt8.not_lt.1 h2) (UInt8.not_lt.1 h1)
    simp [this,cmp_eq_zero a b]
theorem cmp_three:∀ a b:List UInt8,compareBytes a b = -1∨compareBytes a b=0∨compareBytes a b=1
 | [],[]=>by simp [compareBytes]
 | [],_::_=>by simp [compareBytes]
 | _::_,[]=>by simp [compareBytes]
 | x::a,y::b=>by
  simp only [compareBytes]
  split
  ·simp
  ·split
   ·simp
   ·exact cmp_three a b
theorem cmp_trans:∀ a b c:List UInt8,compareBytes a b≤0→compareBytes b c≤0→compareBytes a c≤0
 | [],_,[],_,_=>by simp [compareBytes]
 | [],_,_::_,_,_=>by simp [compareBytes]
 | _::_,[],_,h,_=>by simp [compareBytes] at h
 | _::_,_::_,[],_,h=>by simp [compareBytes] at h
 | x::a,y::b,z::c,h,k=>by
  simp only [compareBytes] at *
  by_cases h1:x < y
  ·by_cases k1:y < z
   ·simp [UInt8.lt_trans h1 k1]
   ·simp only [k1,if_false] at k
    by_cases k2:z < y
    ·simp [k2] at k
    ·have:y=z:=UInt8.le_antisymm (UInt8.not_lt.1 k2) (UInt8.not_lt.1 k1)
     subst this; simp [h1]
  ·simp only [h1,if_false] at h
   by_cases h2:y < x
   ·simp [h2] at h
   ·have:x=y:=UInt8.le_antisymm (UInt8.not_lt.1 h2) (UInt8.not_lt.1 h1)
    subst this
    simp only [UInt8.lt_irrefl,if_false] at h
    by_cases k1:x < z
    ·simp [k1]
    ·simp only [k1,if_false] at *
     by_cases k2:z < x
     ·simp [k2] at k
     ·simp only [k2,if_false] at *
      exact cmp_trans a b c h k
theorem cmp_head (h a b:List UInt8):compareBytes (h++a) (h++b)=compareBytes a b:=by
 induction h with
 | nil=>rfl
 | cons x h ih=>simpa [compareBytes] using ih
theorem cmp_take (l m:List UInt8) (r:Nat) (h:l.take r=m.take r):compareBytes l m=compareBytes (l.drop r) (m.drop r):=by
 have h1:=(List.take_append_drop r l).symm
 have h2:=(List.take_append_drop r m).symm
 rw [h] at h1
 have:compareBytes l m=compareBytes (m.take r++l.drop r) (m.take r++m.drop r):=by rw [← h1, ← h2]
 rw [this,cmp_head]
theorem drop_get (l:List UInt8) (r:Nat) (x:UInt8) (h:l[r]? = some x):l.drop r=x::l.drop (r+1):=by
 obtain ⟨hr,rfl⟩:=List.getElem?_eq_some_iff.1 h
 exact List.drop_eq_getElem_cons hr
theorem cmp_lt {l m:List UInt8} {r:Nat} {x y:UInt8} (h:l.take r=m.take r) (hx:l[r]? = some x) (hy:m[r]? = some y) (hlt:x.toNat < y.toNat):compareBytes l m = -1:=by
 rw [cmp_take l m r h,drop_get l r x hx,drop_get m r y hy]
 simp [compareBytes,UInt8.lt_iff_toNat_lt,hlt]
theorem cmp_gt {l m:List UInt8} {r:Nat} {x y:UInt8} (h:l.take r=m.take r) (hx:l[r]? = some x) (hy:m[r]? = some y) (hlt:y.toNat < x.toNat):compareBytes l m=1:=by
 have:¬ x.toNat < y.toNat:=by omega
 rw [cmp_take l m r h,drop_get l r x hx,drop_get m r y hy]
 simp [compareBytes,UInt8.lt_iff_toNat_lt,hlt,this]
theorem take_more {l m:List UInt8} {r:Nat} {x y:UInt8} (h:l.take r=m.take r) (hx:l[r]? = some x) (hy:m[r]? = some y) (he:x.toNat=y.toNat):l.take (r+1)=m.take (r+1):=by
 have:x=y:=UInt8.toNat_inj.1 he
 rw [List.take_add_one,List.take_add_one,h,hx,hy,this]
theorem cmp_short {l m:List UInt8} (h:l.take l.length=m.take l.length) (hlt:l.length < m.length):compareBytes l m = -1:=by
 rw [cmp_take l m _ h,List.drop_length]
 cases hm:m.drop l.length with
 | nil=>have:=congrArg List.length hm; simp at this; omega
 | cons x t=>rfl
theorem cmp_long {l m:List UInt8} (h:l.take m.length=m.take m.length) (hlt:m.length < l.length):compareBytes l m=1:=by
 rw [cmp_take l m _ h,List.drop_length]
 cases hm:l.drop m.length with
 | nil=>have:=congrArg List.length hm; simp at this; omega
 | cons x t=>rfl
theorem cmp_same {l m:List UInt8} (h:l.take l.length=m.take l.length) (hlt:l.length=m.length):compareBytes l m=0:=by
 rw [cmp_take l m _ h,List.drop_length,hlt,List.drop_length]
 rfl
end Go.Proofs.YtgkofgifoiinkaaGreat
namespace Go.Proofs.YtgkofgifoiinkaaGreat
structure En where
 key:Bytes
 val:Bytes
 page:Nat
structure Nd where
 page:Int
 lvl:Nat
 ents:List En
 to:Bytes
abbrev Pr:=Bytes × Bytes
abbrev cmp (a b:Bytes):Int:=Lib.compareBytes a b
def esize (lvl:Nat) (e:En):Nat:=if lvl=0 then 4+e.key.length+e.val.length else 6+e.key.length
def nsize (lvl:Nat) (es:List En):Nat:=(es.map (esize lvl)).sum
theorem nsize_append (lvl:Nat) (a b:List En):nsize lvl (a++b)=nsize lvl a+nsize lvl b:=by simp [nsize]
theorem nsize_cons (lvl:Nat) (a:En) (b:List En):nsize lvl (a::b)=esize lvl a+nsize lvl b:=by simp [nsize]
theorem nsize_nil (lvl:Nat):nsize lvl []=0:=rfl
theorem nsize_take_succ (lvl:Nat) (l:List En) (j:Nat) (e:En) (h:l[j]? = some e):nsize lvl (l.take (j+1))=nsize lvl (l.take j)+esize lvl e:=by
 rw [List.take_add_one,h]
 simp [nsize]
theorem esize_pos (lvl:Nat) (e:En):4≤esize lvl e:=by
 unfold esize
 split <;> omega
theorem nsize_pos (lvl:Nat) {l:List En} (h:l≠[]):0 < nsize lvl l:=by
 cases l with
 | nil=>exact absurd rfl h
 | cons a r =>
  have:=esize_pos lvl a
  rw [nsize_cons]
  omega
theorem nsize_take_le (lvl:Nat) (l:List En) (j:Nat):nsize lvl (l.take j)≤nsize lvl l:=by
 have:=nsize_append lvl (l.take j) (l.drop j)
 rw [List.take_append_drop] at this
 omega
theorem length_le_nsize (lvl:Nat) (l:List En):4*l.length≤nsize lvl l:=by
 induction l with
 | nil=>simp [nsize]
 | cons a r ih =>
  have:=esize_pos lvl a
  rw [nsize_cons,List.length_cons]
  omega
def encE (lvl:Nat) (e:En):Bytes:=beL e.key.length 2++(e.key++(if lvl=0 then beL e.val.length 2++e.val else beL e.page 4))
def bodyL (lvl:Nat) (es:List En):Bytes:=beL lvl 2++es.flatMap (encE lvl)
theorem encE_length (lvl:Nat) (e:En):(encE lvl e).length=esize lvl e:=by
 unfold encE esize
 split <;> simp [beL_length] <;> omega
theorem enc_length (lvl:Nat) (es:List En):(es.flatMap (encE lvl)).length=nsize lvl es:=by
 induction es with
 | nil=>rfl
 | cons e r ih=>rw [List.flatMap_cons,List.length_append,encE_length,ih,nsize_cons]
theorem bodyL_length (lvl:Nat) (es:List En):(bodyL lvl es).length=2+nsize lvl es:=by
 unfold bodyL
 rw [List.length_append,beL_length,enc_length]
def fnd:List En→Bytes→Nat
 | [],_=>0
 | e::r,key=>if cmp e.key key < 0 then fnd r key+1 else 0
def fndIs (es:List En) (key:Bytes):Bool:=match es[fnd es key]? with | some e=>decide (cmp e.key key=0) | none=>false
theorem fnd_le:∀ (es:List En) (key:Bytes),fnd es key≤es.length
 | [],_=>Nat.le_refl _
 | e::r,key=>by
  unfold fnd
  split
  ·have:=fnd_le r key
   simp only [List.length_cons]
   omega
  ·omega
theorem fnd_of:∀ {es:List En} {key:Bytes} {i:Nat},(∀ (j:Nat) (e:En),j < i→es[j]? = some e→cmp e.key key < 0)→(∀ e,es[i]? = some e→0≤cmp e.key key)→i≤es.length→fnd es key=i
 | [],_,i,_,_,h3=>by
  have:i=0:=by simpa using h3
  rw [this]
  rfl
 | a::r,key,i,h1,h2,h3=>by
  unfold fnd
  rcases i with _ | i
  ·have:=h2 a rfl
   rw [if_neg (by omega)]
  ·rw [if_pos (h1 0 a (by omega) rfl)]
   have:=fnd_of (es:=r) (key:=key) (i:=i) (fun j e hj he=>h1 (j+1) e (by omega) (by simpa using he)) (fun e he=>h2 e (by simpa using he)) (by simpa using h3)
   omega
theorem cmp_lt_le {a b c:Bytes} (h1:cmp a b < 0) (h2:cmp b c≤0):cmp a c < 0:=by
 have h3:cmp a c≤0:=cmp_trans a b c (Int.le_of_lt h1) h2
 rcases Int.lt_or_eq_of_le h3 with h | h
 ·exact h
 ·have e:=(cmp_eq_zero a c).1 h
  subst e
  have:cmp b a = - cmp a b:=cmp_neg a b
  omega
theorem cmp_le_lt {a b c:Bytes} (h1:cmp a b≤0) (h2:cmp b c < 0):cmp a c < 0:=by
 have h3:cmp a c≤0:=cmp_trans a b c h1 (Int.le_of_lt h2)
 rcases Int.lt_or_eq_of_le h3 with h | h
 ·exact h
 ·have e:=(cmp_eq_zero a c).1 h
  subst e
  have:cmp b a = - cmp a b:=cmp_neg a b
  omega
theorem cmp_ltt {a b c:Bytes} (h1:cmp a b < 0) (h2:cmp b c < 0):cmp a c < 0:=cmp_lt_le h1 (Int.le_of_lt h2)
theorem cmp_turn (a b:Bytes):cmp b a = - cmp a b:=cmp_neg a b
theorem cmp_refl (a:Bytes):cmp a a=0:=cmp_self a
def RiseE (es:List En):Prop:=es.Pairwise fun a b=>cmp a.key b.key < 0
theorem RiseE.lt {es:List En} (h:RiseE es) {i j:Nat} {a b:En} (ha:es[i]? = some a) (hb:es[j]? = some b) (hij:i < j):cmp a.key b.key < 0:=by
 obtain ⟨hi,rfl⟩:=List.getElem?_eq_some_iff.1 ha
 obtain ⟨hj,rfl⟩:=List.getElem?_eq_some_iff.1 hb
 exact List.pairwise_iff_getElem.1 h i j hi hj hij
def way (es:List En) (key:Bytes):Nat:=if fndIs es key=true then fnd es key else fnd es key-1
end Go.Proofs.YtgkofgifoiinkaaGreat
namespace Go.Proofs.YtgkofgifoiinkaaGreat
open Go.RowKit
structure Sl where
 a:Option Addr
 n:Nat
 c:Nat
def Sl.v (s:Sl):Value:=.slice s.a s.n s.c
theorem Sl.one (s:Sl):s.v.oneCell'=true:=rfl
structure ET where
 k:Sl
 v:Sl
 e:En
def kdEn:Kd ET En where
 sz:=3
 pos:=by decide
 cs t:=[t.k.v,t.v.v, .int .i64 (t.e.page:Nat)]
 len _:=rfl
 one t u hu:=by
  simp only [List.mem_cons,List.not_mem_nil,or_false] at hu
  rcases hu with rfl | rfl | rfl <;> rfl
 con t:=t.e
 ok w S t:=Bsf w S t.k.v t.e.key∧Bsf w S t.v.v t.e.val
 step h hs:=⟨h.1.step hs,h.2.step hs⟩
abbrev ndv (p l:Int) (ev tv:Value):Value:=.agg #[.int .i64 p, .int .i64 l,ev,tv]
structure NT where
 e:Sl
 t:Sl
 n:Nd
def kdNd:Kd NT Nd where
 sz:=4
 pos:=by decide
 cs t:=[.int .i64 t.n.page, .int .i64 (t.n.lvl:Nat),t.e.v,t.t.v]
 len _:=rfl
 one t u hu:=by
  simp only [List.mem_cons,List.not_mem_nil,or_false] at hu
  rcases hu with rfl | rfl | rfl | rfl <;> rfl
 con t:=t.n
 ok w S t:=Rd kdEn w S t.e.v t.n.ents∧Bsf w S t.t.v t.n.to
 step h hs:=⟨h.1.step hs,h.2.step hs⟩
def Nv (w:World) (S:Nat→Prop) (v:Value) (n:Nd):Prop:=∃ ea ec ta tc,v=ndv n.page (n.lvl:Nat) (.slice ea n.ents.length ec) (.slice ta n.to.length tc)∧Rd kdEn w S (.slice ea n.ents.length ec) n.ents∧Bsf w S (.slice ta n.to.length tc) n.to
theorem Nv.step {w w':World} {S S':Nat→Prop} {v:Value} {n:Nd} (h:Nv w S v n) (hs:Step S w w' S'):Nv w' S' v n:=by
 obtain ⟨ea,ec,ta,tc,h1,h2,h3⟩:=h
 exact ⟨ea,ec,ta,tc,h1,h2.step hs,h3.step hs⟩
theorem Nv.of {w:World} {S:Nat→Prop} {ev tv:Value} {n:Nd} (h1:Rd kdEn w S ev n.ents) (h2:Bsf w S tv n.to):Nv w S (ndv n.page (n.lvl:Nat) ev tv) n:=by
 obtain ⟨ea,ec,rfl,_⟩:=h1.shape
 obtain ⟨ta,tc,rfl,_⟩:=h2.1.shape
 exact ⟨ea,ec,ta,tc,rfl,h1,h2⟩
structure PT where
 k:Sl
 v:Sl
 p:Pr
def kdPr:Kd PT Pr where
 sz:=2
 pos:=by decide
 cs t:=[t.k.v,t.v.v]
 len _:=rfl
 one t u hu:=by
  simp only [List.mem_cons,List.not_mem_nil,or_false] at hu
  rcases hu with rfl | rfl <;> rfl
 con t:=t.p
 ok w S t:=Bsf w S t.k.v t.p.1∧Bsf w S t.v.v t.p.2
 step h hs:=⟨h.1.step hs,h.2.step hs⟩
def kdIn:Kd Int Int where
 sz:=1
 pos:=by decide
 cs t:=[.int .i64 t]
 len _:=rfl
 one t u hu:=by
  simp only [List.mem_cons,List.not_mem_nil,or_false] at hu
  rcases hu with rfl
  rfl
 con t:=t
 ok _ _ _:=True
 step _ _:=trivial
structure ST (α:Type) where
 s:Sl
 l:α
def kdBs:Kd (ST Bytes) Bytes where
 sz:=1
 pos:=by decide
 cs t:=[t.s.v]
 len _:=rfl
 one t u hu:=by
  simp only [List.mem_cons,List.not_mem_nil,or_false] at hu
  rcases hu with rfl
  rfl
 con t:=t.l
 ok w S t:=Bsf w S t.s.v t.l
 step h hs:=h.step hs
def kdEs:Kd (ST (List En)) (List En) where
 sz:=1
 pos:=by decide
 cs t:=[t.s.v]
 len _:=rfl
 one t u hu:=by
  simp only [List.mem_cons,List.not_mem_nil,or_false] at hu
  rcases hu with rfl
  rfl
 con t:=t.l
 ok w S t:=Rd kdEn w S t.s.v t.l
 step h hs:=h.step hs
section
variable {w:World} {S:Nat→Prop} {v:Value}
theorem Rd.ent {es:List En} (h:Rd kdEn w S v es) {i:Nat} {e:En} (he:es[i]? = some e):∃ g o cap ka kc va vc,v = .slice (some ⟨g,o,none⟩) es.length cap∧g < w.heap.size ∧
  w.cell? ⟨g,o+i*3,none⟩=some (.slice ka e.key.length kc)∧w.cell? ⟨g,o+i*3+1,none⟩=some (.slice va e.val.length vc)∧w.cell? ⟨g,o+i*3+2,none⟩=some (.int .i64 (e.page:Nat)) ∧
  Bsf w S (.slice ka e.key.length kc) e.key∧Bsf w S (.slice va e.val.length vc) e.val:=by
 obtain ⟨g,o,cap,⟨⟨ka,kn,kc⟩,⟨va,vn,vc⟩,e'⟩,h1,h2,h3,h4,h5,_⟩:=h.at he
 have h2:e'=e:=h2
 subst h2
 obtain ⟨h6,h7⟩:=h3
 obtain ⟨_,_,e1,_⟩:=h6.1.shape
 obtain ⟨_,_,e2,_⟩:=h7.1.shape
 simp only [Sl.v,Value.slice.injEq] at e1 e2
 obtain ⟨_,rfl,_⟩:=e1
 obtain ⟨_,rfl,_⟩:=e2
 exact ⟨g,o,cap,ka,kc,va,vc,h1,h4,h5 0 _ rfl,h5 1 _ rfl,h5 2 _ rfl,h6,h7⟩
theorem Rd.nod {ns:List Nd} (h:Rd kdNd w S v ns) {i:Nat} {n:Nd} (hn:ns[i]? = some n):∃ g o cap ea ec ta tc,v = .slice (some ⟨g,o,none⟩) ns.length cap∧g < w.heap.size ∧
  w.cell? ⟨g,o+i*4,none⟩=some (.int .i64 n.page)∧w.cell? ⟨g,o+i*4+1,none⟩=some (.int .i64 (n.lvl:Nat))∧w.cell? ⟨g,o+i*4+2,none⟩=some (.slice ea n.ents.length ec) ∧
  w.cell? ⟨g,o+i*4+3,none⟩=some (.slice ta n.to.length tc)∧Rd kdEn w S (.slice ea n.ents.length ec) n.ents∧Bsf w S (.slice ta n.to.length tc) n.to:=by
 obtain ⟨g,o,cap,⟨⟨ea,en,ec⟩,⟨ta,tn,tc⟩,n'⟩,h1,h2,h3,h4,h5,_⟩:=h.at hn
 have h2:n'=n:=h2
 subst h2
 obtain ⟨h6,h7⟩:=h3
 obtain ⟨_,_,e1,_⟩:=h6.shape
 obtain ⟨_,_,e2,_⟩:=h7.1.shape
 simp only [Sl.v,Value.slice.injEq] at e1 e2
 obtain ⟨_,rfl,_⟩:=e1
 obtain ⟨_,rfl,_⟩:=e2
 exact ⟨g,o,cap,ea,ec,ta,tc,h1,h4,h5 0 _ rfl,h5 1 _ rfl,h5 2 _ rfl,h5 3 _ rfl,h6,h7⟩
end
theorem ent_ty:RowTy Tryz.prog kdEn 177 197:=RowTy.of (z:=.agg #[.slice none 0 0, .slice none 0 0, .int .i64 0]) (by':=56) Tryz.underlying177 (by kernel_rfl) rfl (by decide)
theorem nod_ty:RowTy Tryz.prog kdNd 204 179:=RowTy.of (z:=.agg #[.int .i64 0, .int .i64 0, .slice none 0 0, .slice none 0 0]) (by':=64) Tryz.underlying204 (by kernel_rfl) rfl (by decide)
theorem par_ty:RowTy Tryz.prog kdPr 36 68:=RowTy.of (z:=.agg #[.slice none 0 0, .slice none 0 0]) (by':=48) Tryz.underlying36 (by kernel_rfl) rfl (by decide)
theorem int_ty:RowTy Tryz.prog kdIn 40 3:=RowTy.of (z:=.int .i64 0) (by':=8) Tryz.underlying40 (by kernel_rfl) rfl (by decide)
theorem byt_ty:RowTy Tryz.prog kdBs 69 24:=RowTy.of (z:=.slice none 0 0) (by':=24) Tryz.underlying69 (by kernel_rfl) rfl (by decide)
end Go.Proofs.YtgkofgifoiinkaaGreat
namespace Go.Proofs.YtgkofgifoiinkaaGreat
open Go.RowKit
theorem klist_append_run {P:Program} {w w':World} {ops:Array Oper} {rest:List Oper} {o:Oper} {a:Act} {Q:Exit→Act→World→Prop} {v x v':Value} (hg:o.guard=none) (sl xl:Operand) (ty:TypeId) (hop:o.op = .call { callee:=.builtin .append,args := #[sl,xl],argTypes := #[ty,ty] })
  (hs:a.eval sl=v) (hx:a.eval xl=x) (hr:(Builtin.append_ #[ty,ty] o.type #[v,x]).run P w = .ok v' w') (h:wpList P ops Q rest (a.put o.dst v') w'):wpList P ops Q (o::rest) a w:=by
 refine wpList_plain hg fun _ hK=>?_
 unfold Oper.wp execOp
 simp only [hop,resolve,invoke,builtin,Sem.run_bind,Sem.run_pure,Result.andThen_ok,List.map_toArray,List.map_cons,List.map_nil,hs,hx,hr]
 exact hK _ _ h
section
variable {τ α:Type} {K:Kd τ α} {P:Program} {t e:TypeId}
structure OutK (K:Kd τ α) (e:TypeId) (w:World) (S:Nat→Prop) (w2:World) (ov:Value) (out:List α) (Sx:Nat→Prop):Prop where
 ro:Ro K e w2 Sx ov out
 bel:Below w.heap.size w w2
 own:∀ q,ov.ownBlock=some q→w.heap.size≤q
 incl:∀ q,S q→Sx q
 more:∀ q,Sx q→S q∨w.heap.size≤q
 lt:∀ q,Sx q→q < w2.heap.size
variable {w w2 w3:World} {S Sx:Nat→Prop} {ov:Value} {out:List α}
theorem OutK.start (K:Kd τ α) (e:TypeId) (hS:∀ q,S q→q < w.heap.size):OutK K e w S w (.slice none 0 0) [] S :=
 ⟨Ro.nil _ _ _ _,Below.refl _ _,(fun q h=>by cases h),fun _ h=>h,fun _ h=>.inl h,hS⟩
theorem OutK.below (h:OutK K e w S w2 ov out Sx) (hb:Below w2.heap.size w2 w3):OutK K e w S w3 ov out Sx :=
 ⟨h.ro.below hb,h.bel.trans (hb.mono h.bel.size),h.own,h.incl,h.more,fun q hq=>Nat.lt_of_lt_of_le (h.lt q hq) hb.size⟩
theorem OutK.drewN (h:OutK K e w S w2 ov out Sx) (n:Nat):OutK K e w S (w2.drewN n) ov out Sx:=h.below (below_drewN (Below.refl _ _) n)
theorem OutK.step (h:OutK K e w S w2 ov out Sx):Step S w w2 Sx:=⟨Only.of_below h.bel S,h.more⟩
theorem OutK.push (T:RowTy P K t e) (h:OutK K e w S w2 ov out Sx) (x:τ) {cs:Array Value} (hcs:cs=(K.cs x).toArray) (hx:K.ok w2 Sx x) (hn:out.length≤1000000000):∃ ua uc un w6 Sy,un=(out++[K.con x]).length ∧
  (Builtin.append_ #[t,t] t #[ov, .slice (some ⟨w2.heap.size,0,none⟩) 1 1]).run P (w2.alloc (.cells cs e)) = .ok (.slice ua un uc) w6 ∧
  OutK K e w S w6 (.slice ua un uc) (out++[K.con x]) Sy∧Step Sx w2 w6 Sy:=by
 have hb:Below w2.heap.size w2 (w2.alloc (.cells cs e)):=(Below.refl _ _).alloc (Nat.le_refl _) _
 have h1:=h.below hb
 have hlit:=rd_lit K w2 e Sx h.lt [x] cs (by rw [hcs]; simp [Kd.cells]) (fun t' ht=>by rw [List.mem_singleton.1 ht]; exact hx) (by simp) (n:=1) rfl
 obtain ⟨v',w6,hrun,ro6,st6,gr6,lo6⟩:=run_append_ro (m:=[K.con x]) T t h1.ro hlit (by simp; omega)
 obtain ⟨ua,uc,rfl,_⟩:=ro6.shape
 refine ⟨ua,uc,_,w6,_,rfl,hrun,⟨ro6,h1.bel.grown gr6 h1.bel.size fun k hk=>h1.own k hk,fun q hq=>?_,fun q hq=>.inl (h.incl q hq),fun q hq=>?_,fun q hq=>?_⟩,(Step.of_below hb Sx).trans st6⟩
 ·rcases lo6 with e' | e'
  ·exact h.own q (e' ▸ hq)
  ·rw [e'] at hq
   cases hq
   exact h1.bel.size
 ·rcases st6.more q hq with h2 | h2
  ·exact h.more q h2
  ·exact .inr (Nat.le_trans h1.bel.size h2)
 ·rcases hq with hq | hq
  ·exact Nat.lt_of_lt_of_le (h1.lt q hq) st6.size
  ·exact ro6.own hq
theorem OutK.done (h:OutK K e w S w2 ov out Sx) (hS:∀ q,S q→q < w.heap.size):Rd K w2 S ov out:=h.ro.rd h.incl fun q hq hs=>by
 have:=h.own q hq
 have:=hS q hs
 omega
end
end Go.Proofs.YtgkofgifoiinkaaGreat
