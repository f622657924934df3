/- Flush and On of a device: what stands is sure, or what is picked; conditions: a device lies in memory, or the pointer is nil; fewer than 2^32 things are loose in each block; the picks lie elsewhere. -/
import Derived.Test.YtgkofgifoiinkaaGreatN09
import Derived.Carry
import Derived.IntWalk
namespace Go.Proofs.YtgkofgifoiinkaaGreat
open Go.RowKit Go.Maps Go.Sort Go.Shelf
attribute [local go_sem] Oper.semAt_some
def cnt (l:List Bk) (k:Nat):Nat:=(l.take k).countP fun b => !b.loose.isEmpty
theorem cnt_zero (l:List Bk):cnt l 0=0:=rfl
theorem cnt_cons (b:Bk) (r:List Bk) (k:Nat):cnt (b::r) (k+1)=cnt r k+if b.loose=[] then 0 else 1:=by
 unfold cnt
 rw [List.take_succ_cons,List.countP_cons]
 congr 1
 cases h:b.loose <;> simp
def settled:List Bk→List Nat→List Bk
 | [],_=>[]
 | b::r,ps=>if b.loose=[] then ⟨b.sure,[]⟩::settled r ps else ⟨b.picked (ps.headD 0),[]⟩::settled r ps.tail
theorem settled_length:∀ (l:List Bk) (ps:List Nat),(settled l ps).length=l.length
 | [],_=>rfl
 | b::r,ps=>by unfold settled; split <;> simp [settled_length r]
theorem settled_at:∀ (l:List Bk) (ps:List Nat) (k:Nat) (x:Bk),l[k]? = some x →
  (settled l ps)[k]? = some ⟨if x.loose=[] then x.sure else x.picked ((ps[cnt l k]?).getD 0),[]⟩
 | [],_,k,x,h=>by simp at h
 | b::r,ps,0,x,h=>by
  simp only [List.getElem?_cons_zero,Option.some.injEq] at h
  subst h
  unfold settled
  rw [cnt_zero]
  split
  ·rename_i h0
   simp
  ·rename_i h0
   simp only [List.getElem?_cons_zero]
   cases ps <;> simp
 | b::r,ps,k+1,x,h=>by
  simp only [List.getElem?_cons_succ] at h
  unfold settled
  rw [cnt_cons]
  split
  ·rename_i h0
   simp only [List.getElem?_cons_succ]
   rw [settled_at r ps k x h]
   simp
  ·rename_i h0
   simp only [List.getElem?_cons_succ]
   rw [settled_at r ps.tail k x h]
   cases ps <;> simp
theorem cnt_range (l:List Bk) (k:Nat) (hk:k≤l.length):((List.range k).filter fun j => !(looseAt l j).isEmpty).length=cnt l k:=by
 induction k with
 | zero=>rfl
 | succ k ih =>
  rw [List.range_succ,List.filter_append,List.length_append,ih (by omega)]
  obtain ⟨x,hx⟩:∃ x,l[k]? = some x:=⟨_,List.getElem?_eq_getElem (by omega)⟩
  unfold cnt
  rw [List.take_add_one,List.countP_append,hx]
  simp only [looseAt,hx,List.filter_cons,List.filter_nil,Option.map_some,Option.getD_some,Option.toList_some,List.countP_cons,List.countP_nil]
  cases h:x.loose <;> simp
theorem loosen_at {l:List Bk} {k:Nat} (hk:k∈loosen l):(loosen l)[cnt l k]? = some k:=by
 obtain ⟨hlt,hne⟩:=mem_loosen.1 hk
 unfold loosen
 have e:List.range l.length=List.range k++(k::(List.range (l.length-(k+1))).map (· + (k+1))):=by
  obtain ⟨m,hm⟩:∃ m,l.length=(k+1)+m:=⟨l.length-(k+1),by omega⟩
  rw [hm,List.range_add,List.range_succ,List.append_assoc]
  simp [Nat.add_comm]
 rw [e,List.filter_append,List.getElem?_append_right (by rw [cnt_range l k (by omega)]; exact Nat.le_refl _),cnt_range l k (by omega),Nat.sub_self,List.filter_cons]
 rw [if_pos (by simpa using hne)]
 rfl
theorem loosen_inv {l:List Bk} {i k:Nat} (h:(loosen l)[i]? = some k):cnt l k=i∧k∈loosen l:=by
 have hk:k∈loosen l:=List.mem_of_getElem? h
 refine ⟨?_,hk⟩
 have h2:=loosen_at hk
 have hl1:=(List.getElem?_eq_some_iff.1 h).1
 have hl2:=(List.getElem?_eq_some_iff.1 h2).1
 have h3:(loosen l)[cnt l k]'hl2=(loosen l)[i]'hl1:=by
  rw [(List.getElem?_eq_some_iff.1 h).2,(List.getElem?_eq_some_iff.1 h2).2]
 have hp:=List.pairwise_iff_getElem.1 (loosen_nodup l)
 rcases Nat.lt_trichotomy (cnt l k) i with h4 | h4 | h4
 ·exact absurd h3 (hp _ _ hl2 hl1 h4)
 ·exact h4
 ·exact absurd h3.symm (hp _ _ hl1 hl2 h4)
def SureOk (w:World) (F:Nat→Prop) (u:Value) (s:Bytes):Prop:=u=nilSl∧s=noughts∨BlkF w F u s
def target (bk:List Bk) (pk:Nat→Nat→Nat) (i k:Nat) (x:Bk):Bytes :=
 if x.loose≠[]∧cnt bk k < i then x.picked (pk (cnt bk k) x.loose.length) else x.sure
theorem settle_dev {w W:World} {b sb mb:Nat} {sv svi:List Value} {lv:Nat→Value} {Dm:DataW Value} {D:Dv} {F S:Nat→Prop} (h:DevAt w b sb mb sv lv Dm D F) (ho:Only S w W) (hS:∀ q,S q→q=sb∨¬ F q)
  (hc:Cel W sb svi 24) (hl:svi.length=D.bk.length) {bk:List Bk} (hbl:bk.length=D.bk.length) (hb:∀ (k:Nat) (y:Bk),bk[k]? = some y→y.loose=[]∧∃ u,svi[k]? = some u∧SureOk w F u y.sure) :
  Dev ((W.alloc (.map #[] 0)).setCell ⟨b,1,none⟩ (.map (some W.heap.size))) b ⟨bk,D.on,D.left⟩ (fun q=>F q∨q=W.heap.size) ∧
   Only (fun q=>S q∨F q) w ((W.alloc (.map #[] 0)).setCell ⟨b,1,none⟩ (.map (some W.heap.size))):=by
 have hz:=ho.size
 have hbF:=h.fl _ h.fb
 have hkeep:∀ q,F q→q≠sb→W.heap[q]? = w.heap[q]?:=fun q hq hne=>ho.block q (h.fl q hq) (fun hs=>by
  rcases hS q hs with h1 | h1
  ·exact hne h1
  ·exact h1 hq)
 have hhead:=((h.head.kept (hkeep b h.fb h.b_ne.1)).alloc (.map #[] 0)).set 1 (.map (some W.heap.size))
 have hm:=(World.ownsMap_made (H:=Value) W Tryz.prog 3 rawR).mono (by omega:0≤4096)
 have hset:∀ q,q≠b→((W.alloc (.map #[] 0)).setCell ⟨b,1,none⟩ (.map (some W.heap.size))).heap[q]? = (W.alloc (.map #[] 0)).heap[q]?:=fun q hq=>Below.heap_setCell _ ⟨b,1,none⟩ _ _ hq
 have hsz:((W.alloc (.map #[] 0)).setCell ⟨b,1,none⟩ (.map (some W.heap.size))).heap.size=W.heap.size+1:=by simp [World.setCell]
 refine ⟨⟨sb,W.heap.size,svi,fun _=>nilSl, .map [], {
  head:=by rw [hbl]; exact hhead
  rows:=(hc.alloc _).kept (hset sb (h.b_ne.1.symm))
  svl:=by rw [hl,hbl]
  sure:=fun k y hy=>by
   obtain ⟨_,u,hu,hs⟩:=hb k y hy
   refine ⟨u,hu,hs.imp id fun hbk=>hbk.kept (fun q hq ⟨cs,hcq⟩=>?_) (fun q hq=>.inl hq)⟩
   have h1:q≠sb:=fun e=>by
    subst e
    have:=(hcq.inj h.rows).2
    cases this
   have h2:q≠b:=h.b_not hcq (by decide)
   rw [hset q h2,Below.heap_alloc _ _ _ (Nat.lt_of_lt_of_le (h.fl q hq) hz)]
   exact hkeep q hq h1
  map:=ownsMap_kept' hm (hset _ (by omega))
  keys:=fun k y hy=>by rw [(hb k y hy).1]; exact ⟨rfl,rfl⟩
  only:=fun kl hk=>by cases hk
  loose:=fun k y hy=>by rw [(hb k y hy).1]; exact RowF.nil _ _
  apart:=fun j k _ _ _=>.inl rfl
  off:=fun k _ e=>by cases e
  fb:=.inl h.fb
  fs:=.inl h.fs
  fm:=.inr rfl
  fl:=fun q hq=>by
   rw [hsz]
   rcases hq with h1 | h1
   ·have:=h.fl q h1
    omega
   ·omega
  pos:=by
   show 0 < bk.length
   rw [hbl]; exact h.pos
  few:=by
   show bk.length≤4096
   rw [hbl]; exact h.few
  low:=h.low
  high:=h.high }⟩,?_⟩
 exact ((ho.mono (fun q _ hq=>Or.inl hq)).alloc _).setCell (p:=⟨b,1,none⟩) (.inl (.inr h.fb)) _
structure SJ (w:World) (F PS:Nat→Prop) (b sb:Nat) (bk:List Bk) (pk:Nat→Nat→Nat) (PJ:Nat→World→Prop) (pv:Value) (rc:Loop) (i:Nat) (W:World):Prop where
 only:Only (fun q=>q=sb∨PS q) w W
 row:∃ svi,Cel W sb svi 24∧svi.length=bk.length∧∀ (k:Nat) (x:Bk),bk[k]? = some x→∃ u,svi[k]? = some u∧SureOk w F u (target bk pk i k x)
 pj:PJ i W
 b0:Cel W w.heap.size [ptr b] 27
 b1:Cel W (w.heap.size+1) [pv] 35
 dd:W.heap[w.heap.size+2]? = some (.deferred (some []))
 ll:W.heap[w.heap.size+3]? = some (.loop rc)
theorem SJ.below {w W W':World} {F PS:Nat→Prop} {b sb:Nat} {bk:List Bk} {pk:Nat→Nat→Nat} {PJ:Nat→World→Prop} {pv:Value} {rc:Loop} {i B:Nat} (h:SJ w F PS b sb bk pk PJ pv rc i W)
  (hPJ:∀ i W W',PJ i W→(∀ q,q < w.heap.size→q≠sb→W'.heap[q]? = W.heap[q]?)→PJ i W') (hs:sb < w.heap.size) (hb:RowKit.Below B W W') (hB:w.heap.size+4≤B):SJ w F PS b sb bk pk PJ pv rc i W' where
 only:=⟨hb.os.trans h.only.os,hb.tape.trans h.only.tape,hb.output.trans h.only.output,Nat.le_trans h.only.size hb.size,fun q hq hn=>(hb.block q (by omega)).trans (h.only.block q hq hn)⟩
 row:=by
  obtain ⟨svi,hc,r⟩:=h.row
  exact ⟨svi,hc.kept (hb.block _ (by omega)),r⟩
 pj:=hPJ i W W' h.pj fun q hq _=>hb.block q (by omega)
 b0:=h.b0.kept (hb.block _ (by omega))
 b1:=h.b1.kept (hb.block _ (by omega))
 dd:=(hb.block _ (by omega)).trans h.dd
 ll:=(hb.block _ (by omega)).trans h.ll
theorem SJ.turn {w W:World} {F PS:Nat→Prop} {b sb:Nat} {bk:List Bk} {pk:Nat→Nat→Nat} {PJ:Nat→World→Prop} {pv:Value} {rc:Loop} {i:Nat} (h:SJ w F PS b sb bk pk PJ pv rc i W)
  (hPJ:∀ i W W',PJ i W→(∀ q,q < w.heap.size→q≠sb→W'.heap[q]? = W.heap[q]?)→PJ i W') (hs:sb < w.heap.size) (rc':Loop):SJ w F PS b sb bk pk PJ pv rc' i (W.putObj (w.heap.size+3) (.loop rc')):=by
 have hk:∀ q,q≠w.heap.size+3→(W.putObj (w.heap.size+3) (.loop rc')).heap[q]? = W.heap[q]?:=fun q hq=>World.putObj_heap_other hq
 have hlt:=(Array.getElem?_eq_some_iff.1 h.ll).1
 have hg:=grownBy_putObj' W (w.heap.size+3) (.loop rc')
 exact {
  only:=h.only.grown hg (fun q e=>by cases e; exact .inr (by omega))
  row:=by
   obtain ⟨svi,hc,r⟩:=h.row
   exact ⟨svi,hc.kept (hk _ (by omega)),r⟩
  pj:=hPJ i W _ h.pj fun q hq _=>hk q (by omega)
  b0:=h.b0.kept (hk _ (by omega))
  b1:=h.b1.kept (hk _ (by omega))
  dd:=(hk _ (by omega)).trans h.dd
  ll:=World.putObj_heap_same hlt }
set_option maxRecDepth 100000 in
set_option maxHeartbeats 4000000 in
theorem settle_in (n:Nat) (hn:12≤n) {w:World} {b sb mb:Nat} {sv:List Value} {lv:Nat→Value} {Dm:DataW Value} {D:Dv} {F PS:Nat→Prop} (h:DevAt w b sb mb sv lv Dm D F) {gf:Nat} {caps:Array Value}
  (eg:∀ args w,(callFunc gf args).run Tryz.prog w = .ok (.enter gf args) w) (pk:Nat→Nat→Nat) (PJ:Nat→World→Prop) (hPS:∀ q,PS q→¬ F q∧q < w.heap.size) (h0:PJ 0 w)
  (hPJ:∀ i W W',PJ i W→(∀ q,q < w.heap.size→q≠sb→W'.heap[q]? = W.heap[q]?)→PJ i W') (hpk:∀ i m,pk i m≤m)
  (hpick:∀ i m W,PJ i W→0 < m→m < 4294967296→i < (loosen D.bk).length→Calls Tryz.prog gf (#[.int .i64 (m:Int)]++caps) W fun e W'=>e = .returned (.int .i64 (pk i m:Nat))∧PJ (i+1) W'∧Only PS W W')
  (hsmall:∀ (k:Nat) (x:Bk),D.bk[k]? = some x→x.loose.length < 4294967296)
  (ps:List Nat) (hps:∀ (k:Nat) (x:Bk),D.bk[k]? = some x→x.loose≠[]→(ps[cnt D.bk k]?).getD 0=pk (cnt D.bk k) x.loose.length) :
  Calls Tryz.prog 58 #[ptr b, .func (.func gf) #[] caps] w fun e w'=>e = .returned (.tuple #[])∧Dev w' b ⟨settled D.bk ps,D.on,D.left⟩ (Grow F w w')∧Only (fun q=>F q∨PS q) w w':=by
 refine (callsIn_wide (n:=n)).1 ?_
 have h1n:1≤n:=by omega
 refine callsIn_of_wp_marks Tryz.func58 rfl trivial ?_ rfl
 simp only [Tryz.ntmps58,List.size_toArray,List.length_cons,List.length_nil,Nat.reduceAdd,Nat.reduceSub,Array.replicate_succ,Array.replicate_zero,List.push_toArray,List.append_toArray,List.nil_append,List.cons_append]
 gi_wp2
 have hz0:((w.alloc (.cells #[ptr b] 27)).alloc (.cells #[.func (.func gf) #[] caps] 35)).heap.size=w.heap.size+2:=by simp
 have hcb:=(Cel.new w #[ptr b] 27).alloc (.cells #[.func (.func gf) #[] caps] 35)
 have hcp:=Cel.new (w.alloc (.cells #[ptr b] 27)) #[.func (.func gf) #[] caps] 35
 have hbw:RowKit.Below w.heap.size w ((w.alloc (.cells #[ptr b] 27)).alloc (.cells #[.func (.func gf) #[] caps] 35)):=((Below.refl _ _).alloc (Nat.le_refl _) _).alloc (by simp) _
 rw [World.size_alloc] at hcp
 generalize hw0:(w.alloc (.cells #[ptr b] 27)).alloc (.cells #[.func (.func gf) #[] caps] 35)=w0 at *
 clear hw0
 refine range_method h1n (gf:=89) (rv:=ptr b) rfl (enters_of Tryz.func89 (by kernel_rfl) rfl) ?_
 intro fn rec W1 hrec hW1
 have hbw1:RowKit.Below w0.heap.size w0 W1:=by rw [hW1]; exact ((Below.refl _ _).alloc (Nat.le_refl _) _).alloc (by simp) _
 have hz1:W1.heap.size=w.heap.size+4:=by rw [hW1]; simp [hz0]
 have hfs:=h.fl _ h.fs
 have hwW1:RowKit.Below w.heap.size w W1:=hbw.trans (hbw1.mono (by omega))
 have h1:DevAt W1 b sb mb sv lv Dm D F:=h.kept (fun g hg=>hwW1.block g (h.fl g hg)) hwW1.size
 have hS1:SJ w F PS b sb D.bk pk PJ (.func (.func gf) #[] caps) (rec .ready none) 0 W1:={
  only:=Only.of_below hwW1 _
  row:=⟨sv,h1.rows,h.svl,fun k x hx=>by
   obtain ⟨u,hu,hs⟩:=h.sure k x hx
   refine ⟨u,hu,?_⟩
   unfold target
   rw [if_neg (by simp)]
   exact hs⟩
  pj:=hPJ 0 w W1 h0 fun q hq _=>hwW1.block q hq
  b0:=hcb.kept (hbw1.block _ (by omega))
  b1:=hcp.kept (hbw1.block _ (by omega))
  dd:=by
   rw [hW1, ← hz0]
   exact (Below.heap_alloc _ _ _ (by simp)).trans (World.alloc_heap_new w0 _)
  ll:=by
   have:=World.alloc_heap_new (w0.alloc (.deferred (some []))) (.loop (rec .ready none))
   rw [World.size_alloc,hz0] at this
   rw [hW1]
   exact this }
 rw [hz0]
 refine (rising_in (n-1) (by omega) (B:=w.heap.size+4) (J:=SJ w F PS b sb D.bk pk PJ (.func (.func gf) #[] caps) (rec .ready none)) h1 (by omega) (fun W hW=>hS1.below hPJ hfs hW (by omega)) (fun i W hW=>?_) (fun i k W hW hk=>?_)).mono ?_
 ·have hne:=h.b_ne
  exact ⟨(hW.only.block b (h.fl _ h.fb) (fun e=>e.elim hne.1 (fun e=>(hPS _ e).1 h.fb))).trans (hwW1.block b (h.fl _ h.fb)).symm,
   (hW.only.block mb (h.fl _ h.fm) (fun e=>e.elim (fun e=>hne.2.2 e.symm) (fun e=>(hPS _ e).1 h.fm))).trans (hwW1.block mb (h.fl _ h.fm)).symm⟩
 ·obtain ⟨hcnt,hkl⟩:=loosen_inv hk
  obtain ⟨hklt,hkne⟩:=mem_loosen.1 hkl
  obtain ⟨x,hx⟩:∃ x,D.bk[k]? = some x:=⟨_,List.getElem?_eq_getElem hklt⟩
  rw [looseAt_get hx] at hkne
  have hpos:0 < x.loose.length:=List.length_pos_iff.2 hkne
  have hrow:=h.loose k x hx
  obtain ⟨g,cap,hv,hcells⟩:=hrow.some hpos
  have hgF:F g:=by
   obtain ⟨_,_,_,hf⟩:=hrow
   exact hf g (by rw [hv]; rfl)
  have hgsb:g≠sb:=fun e=>h.off k hklt (by rw [hv,e]; rfl)
  rw [hv]
  have hWb:=hW.turn hPJ hfs (rec .busy none)
  have hkW:KeepCells (w.heap.size+4) W (W.putObj (w.heap.size+3) (.loop (rec .busy none))) :=
   ⟨by simp [World.putObj],fun q cs t fr hq hc=>(World.putObj_heap_other (by omega)).trans hc⟩
  refine (yield_goes (a₁:={ tmps := #[ptr b, .func (.func gf) #[] caps, .pointer (some ⟨w.heap.size,0,none⟩), .pointer (some ⟨w.heap.size+1,0,none⟩), .int .i64 (k:Int), .slice (some ⟨g,0,none⟩) x.loose.length cap,undef,ptr b, .func (.func 89) #[ptr b] #[], .int .i64 (k:Int), .slice (some ⟨g,0,none⟩) x.loose.length cap,undef,undef,undef,undef,undef,undef,undef,undef,undef,undef,undef,undef,undef,undef,undef,undef,undef,undef,undef,undef,undef],defers:=[] }) hrec hW.ll rfl ?assign ?body).mono (fun e W' hh=>hh)
  case assign =>
   intro K hK
   gi_wp2
   exact hK
  case body =>
   generalize W.putObj (w.heap.size+3) (.loop (rec .busy none))=Wb at *
   have hlen:=hrow.len
   have hsm:=hsmall k x hx
   have cb0:Wb.cell? ⟨w.heap.size,0,none⟩=some (ptr b):=by rw [hWb.b0.cell]; rfl
   have cb1:Wb.cell? ⟨w.heap.size+1,0,none⟩=some (.func (.func gf) #[] caps):=by rw [hWb.b1.cell]; rfl
   have hcall:CallsIn (Fence.wide.inRound (w.heap.size+3)) (n-1-1-1) Tryz.prog gf (#[.int .i64 (x.loose.length:Int)]++caps) Wb _:=CallsIn.inRound _ (callsIn_wide.2 (hpick i x.loose.length Wb hWb.pj hpos hsm (List.getElem?_eq_some_iff.1 hk).1))
   have HC:=Lib.hid hcall
   have hfg:(Fence.wide.inRound (w.heap.size+3)).fn gf:=trivial
   have h1n':1≤n-1-1:=by omega
   clear hrec hW1 hcall
   gi_wp2_with fail
   refine ⟨trivial,HC.out.mono ?_⟩
   rintro e W2 ⟨rfl,hpj,hon⟩
   have hzb:=hWb.only.size
   have hnb:∀ q,F q→¬ PS q:=fun q hq hp=>(hPS q hp).1 hq
   have hnw:∀ q,w.heap.size≤q→¬ PS q:=fun q hq hp=>by have:=(hPS q hp).2; omega
   have hon2:Only (fun q=>q=sb∨PS q) w W2:=hWb.only.then hon (fun q hq=>.inl (.inr hq))
   have hkeep:∀ q,F q→q≠sb→W2.heap[q]? = w.heap[q]?:=fun q hq hne=>hon2.block q (h.fl q hq) (fun e=>e.elim hne (hnb q hq))
   have hnew:∀ q,w.heap.size≤q→q < Wb.heap.size→W2.heap[q]? = Wb.heap[q]?:=fun q hq hl=>hon.block q hl (hnw q hq)
   have b0':=hWb.b0.kept (hnew _ (Nat.le_refl _) hWb.b0.lt)
   have b1':=hWb.b1.kept (hnew _ (by omega) hWb.b1.lt)
   have dd':=(hnew _ (by omega) (Array.getElem?_eq_some_iff.1 hWb.dd).1).trans hWb.dd
   have ll':=(hnew _ (by omega) (Array.getElem?_eq_some_iff.1 hWb.ll).1).trans hWb.ll
   have hkW2:KeepCells (w.heap.size+4) Wb W2:=⟨hon.size,fun q cs t fr hq hc=>(hnew q (by omega) (Array.getElem?_eq_some_iff.1 hc).1).trans hc⟩
   obtain ⟨svi,hsc,hsl,hsv⟩:=hWb.row
   have hsc2:Cel W2 sb svi 24:=hsc.kept (hon.block sb hsc.lt (hnb sb h.fs))
   have hple:=hpk i x.loose.length
   have htgt:∀ (k':Nat) (y:Bk),D.bk[k']? = some y→k'≠k→target D.bk pk (i+1) k' y=target D.bk pk i k' y:=fun k' y hy hne=>by
    unfold target
    by_cases hl:y.loose=[]
    ·simp [hl]
    ·have hm:k'∈loosen D.bk:=mem_loosen.2 ⟨(List.getElem?_eq_some_iff.1 hy).1,by rw [looseAt_get hy]; exact hl⟩
     have hci:cnt D.bk k'≠i:=fun e=>hne (by
      have h1:=loosen_at hm
      rw [e,hk] at h1
      exact (Option.some.inj h1).symm)
     have:cnt D.bk k' < i+1↔cnt D.bk k' < i:=by omega
     simp [this]
   have htk:target D.bk pk (i+1) k x=x.picked (pk i x.loose.length):=by
    unfold target
    rw [if_pos ⟨hkne,by omega⟩,hcnt]
   have hts:target D.bk pk i k x=x.sure:=by
    unfold target
    rw [if_neg (by rw [hcnt]; simp)]
   have fin:∀ (W3:World) (sv3:List Value),Only (fun q=>q=sb∨PS q) w W3→(∀ q,q < W2.heap.size→q≠sb→W3.heap[q]? = W2.heap[q]?)→W2.heap.size≤W3.heap.size→Cel W3 sb sv3 24→sv3.length=D.bk.length →
     (∀ (k':Nat) (y:Bk),D.bk[k']? = some y→∃ u,sv3[k']? = some u∧SureOk w F u (target D.bk pk (i+1) k' y)) →
     W3.heap[w.heap.size+3]? = some (.loop (rec .busy none))∧SJ w F PS b sb D.bk pk PJ (.func (.func gf) #[] caps) (rec .ready none) (i+1) (W3.putObj (w.heap.size+3) (.loop (rec .ready none))) ∧
      KeepCells (w.heap.size+4) W (W3.putObj (w.heap.size+3) (.loop (rec .ready none))):=by
    intro W3 sv3 ho3 hk3 hz3 hc3 hl3 ht3
    have hzz:w.heap.size+3 < W2.heap.size:=(Array.getElem?_eq_some_iff.1 ll').1
    have hS3:SJ w F PS b sb D.bk pk PJ (.func (.func gf) #[] caps) (rec .busy none) (i+1) W3:={
     only:=ho3
     row:=⟨sv3,hc3,hl3,ht3⟩
     pj:=hPJ _ _ _ hpj fun q hq hne=>hk3 q (by omega) hne
     b0:=b0'.kept (hk3 _ (by omega) (by omega))
     b1:=b1'.kept (hk3 _ (by omega) (by omega))
     dd:=(hk3 _ (by omega) (by omega)).trans dd'
     ll:=(hk3 _ (by omega) (by omega)).trans ll' }
    refine ⟨hS3.ll,hS3.turn hPJ hfs _,(hkW.trans hkW2).trans ⟨by simpa [World.putObj] using hz3,fun q cs t fr hq hc=>(World.putObj_heap_other (by omega)).trans ((hk3 q (Array.getElem?_eq_some_iff.1 hc).1 (by omega)).trans hc)⟩⟩
   have FIN:=Lib.hid fin
   have HT:=Lib.hid (anZ htgt (anZ htk hts))
   have HS:=Lib.hid (anZ hsc2 (anZ hsl hsv))
   have hsbn:=h.few
   have cd:W2.cell? ⟨b,0,none⟩=some (.slice (some ⟨sb,0,none⟩) D.bk.length D.bk.length):=(World.cell?_of_block (w:=w) (a:=⟨b,0,none⟩) (hkeep b h.fb h.b_ne.1)).trans h.cells.1
   have cb2:W2.cell? ⟨w.heap.size,0,none⟩=some (ptr b):=by rw [b0'.cell]; rfl
   have hgk:=hkeep g hgF hgsb
   clear htgt htk hts fin hsv hsc b0' b1' dd' ll' hkW2 hnew hWb hpj hon hPJ hpick hPS
   rcases hpz:pk i x.loose.length with _ | m
   ·have HZ:=Lib.hid hpz
    clear hpz
    have hd:decide ((0:Int) < ((0:Nat):Int))=false:=rfl
    gi_wp2
    refine FIN.out W2 svi hon2 (fun _ _ _=>rfl) (Nat.le_refl _) HS.out.1 HS.out.2.1 (fun k' y hy=>?_)
    obtain ⟨u,hu,hs⟩:=HS.out.2.2 k' y hy
    refine ⟨u,hu,?_⟩
    by_cases hkk:k'=k
    ·subst hkk
     rw [hx] at hy
     cases hy
     rw [HT.out.2.1,HZ.out]
     rw [HT.out.2.2] at hs
     exact hs
    ·rw [HT.out.1 k' y hy hkk]
     exact hs
   ·have HZ:=Lib.hid hpz
    rw [hpz] at hple
    clear hpz
    obtain ⟨l,hl⟩:∃ l,x.loose[m]? = some l:=⟨_,List.getElem?_eq_getElem (by omega)⟩
    obtain ⟨u,hu,hbu⟩:=hcells m l hl
    obtain ⟨gu,rfl,hbu2⟩:=hbu
    have ct:W2.cell? ⟨g,m,none⟩=some (.slice (some ⟨gu,0,none⟩) 512 512):=(World.cell?_of_block (w:=w) (a:=⟨g,m,none⟩) hgk).trans hu
    obtain ⟨old,hold⟩:∃ old,svi[k]? = some old:=⟨_,List.getElem?_eq_getElem (by rw [HS.out.2.1]; exact hklt)⟩
    have co:W2.cell? ⟨sb,k,none⟩=some old:=by rw [hsc2.cell,hold]
    have fo:=hsc2.frozen k
    have hkn:(k:Int) < (D.bk.length:Int):=by omega
    have hmn:(m:Int) < (x.loose.length:Int):=by omega
    have HL:=Lib.hid (anZ hl hbu2)
    have HX:=Lib.hid hx
    clear hl hbu2 hu hcells hold hsc2 hgk hsl hx hk hkne hv hklt hcnt
    have hlo:¬ LetsOut (Exit.inBlock 1 (GoesOn fun W'=>W'.heap[w.heap.size+3]? = some (.loop (rec .busy none))∧SJ w F PS b sb D.bk pk PJ (.func (.func gf) #[] caps) (rec .ready none) (i+1) (W'.putObj (w.heap.size+3) (.loop (rec .ready none))) ∧
      KeepCells (w.heap.size+4) W (W'.putObj (w.heap.size+3) (.loop (rec .ready none))))):=fun ⟨_,_,hh⟩=>hh
    have hm1:(m:Int)≤9223372036854775806:=by omega
    gi_wp2
    refine region_till_round 11 (fun W=>W=W2.drew) (by kernel_rfl) (by kernel_rfl) hlo rfl (fun hS=>?_)
    clear hlo
    refine tkZ (i:=0) 17 (ptr b) rfl rfl (by kernel_rfl) (fun _ _ _ h=>h) (by rfl) (fun W hW=>?_) hS ?_
    ·subst hW
     go_simp
    simp only [Act.put,sAZ,sBZ,sCZ]
    refine tkZ (i:=1) 18 (ptr b) rfl rfl (by kernel_rfl) (fun _ _ _ h=>h) (by rfl) (fun W hW=>?_) hS ?_
    ·subst hW
     go_simp
    simp only [Act.put,sAZ,sBZ,sCZ]
    refine tkZ (i:=2) 19 (.pointer (some ⟨b,0,none⟩)) rfl rfl (by kernel_rfl) (fun _ _ _ h=>h) (by rfl) (fun W hW=>?_) hS ?_
    ·subst hW
     go_simp
    simp only [Act.put,sAZ,sBZ,sCZ]
    refine tkZ (i:=3) 20 (.slice (some ⟨sb,0,none⟩) D.bk.length D.bk.length) rfl rfl (by kernel_rfl) (fun _ _ _ h=>h) (by rfl) (fun W hW=>?_) hS ?_
    ·subst hW
     go_simp
    simp only [Act.put,sAZ,sBZ,sCZ]
    refine tkZ (i:=4) 21 (.int .i64 (k:Int)) rfl rfl (by kernel_rfl) (fun _ _ _ h=>h) (by rfl) (fun W hW=>?_) hS ?_
    ·subst hW
     go_simp
    simp only [Act.put,sAZ,sBZ,sCZ]
    refine tkZ (i:=5) 22 (.slice (some ⟨g,0,none⟩) x.loose.length cap) rfl rfl (by kernel_rfl) (fun _ _ _ h=>h) (by rfl) (fun W hW=>?_) hS ?_
    ·subst hW
     go_simp
    simp only [Act.put,sAZ,sBZ,sCZ]
    refine tkZ (i:=6) 23 (.int .i64 ((m:Int)+1)) rfl rfl (by kernel_rfl) (fun _ _ _ h=>h) (by rfl) (fun W hW=>?_) hS ?_
    ·subst hW
     go_simp
    simp only [Act.put,sAZ,sBZ,sCZ]
    refine tkZ (i:=7) 24 (.int .i64 (m:Int)) rfl rfl (by kernel_rfl) (fun _ _ _ h=>h) (by rfl) (fun W hW=>?_) hS ?_
    ·subst hW
     go_simp
     exact IntWalk.i64_in _ (by omega)
    simp only [Act.put,sAZ,sBZ,sCZ]
    refine tkZ (i:=8) 25 (.pointer (some ⟨g,m,none⟩)) rfl rfl (by kernel_rfl) (fun _ _ _ h=>h) (by rfl) (fun W hW=>?_) hS ?_
    ·subst hW
     go_simp
    simp only [Act.put,sAZ,sBZ,sCZ]
    refine tkZ (i:=9) 26 (.slice (some ⟨gu,0,none⟩) 512 512) rfl rfl (by kernel_rfl) (fun _ _ _ h=>h) (by rfl) (fun W hW=>?_) hS ?_
    ·subst hW
     go_simp
    simp only [Act.put,sAZ,sBZ,sCZ]
    refine tkZ (i:=10) 27 (.pointer (some ⟨sb,k,none⟩)) rfl rfl (by kernel_rfl) (fun _ _ _ h=>h) (by rfl) (fun W hW=>?_) hS ?_
    ·subst hW
     go_simp
    simp only [Act.put,sAZ,sBZ,sCZ]
    refine next_till 11 (by kernel_rfl) rfl (fun K hK=>?_)
    go_simp
    refine hK.out _ _ (fun e=>absurd rfl e) ?_
    clear hK K
    refine done_till (by kernel_rfl) ?_ _
    have hne3:∀ q,q≠sb→(W2.drew.setCell ⟨sb,k,none⟩ (.slice (some ⟨gu,0,none⟩) 512 512)).heap[q]? = W2.heap[q]?:=fun q hq=>Below.heap_setCell W2.drew ⟨sb,k,none⟩ _ q hq
    refine FIN.out (W2.drew.setCell ⟨sb,k,none⟩ (.slice (some ⟨gu,0,none⟩) 512 512)) (svi.set k (.slice (some ⟨gu,0,none⟩) 512 512)) (hon2.drew.setCell (p:=⟨sb,k,none⟩) (.inl (.inl rfl)) _) (fun q _ hq=>hne3 q hq) ((Only.refl (fun _=>True) W2).drew.setCell (p:=⟨sb,k,none⟩) (.inl trivial) _).size
     ((show Cel W2.drew sb svi 24 from HS.out.1).set k _) (by rw [List.length_set]; exact HS.out.2.1) (fun k' y hy=>?_)
    by_cases hkk:k'=k
    ·subst hkk
     refine ⟨.slice (some ⟨gu,0,none⟩) 512 512,by rw [List.getElem?_set_self (by rw [HS.out.2.1]; omega)],?_⟩
     rw [HX.out] at hy
     cases hy
     rw [HT.out.2.1,HZ.out]
     have hpk:x.picked (m+1)=l:=by
      unfold Bk.picked
      rw [if_neg (by omega),Nat.add_sub_cancel,HL.out.1]
      rfl
     rw [hpk]
     exact .inr ⟨gu,rfl,HL.out.2.1,HL.out.2.2.1,HL.out.2.2.2⟩
    ·obtain ⟨u,hu,hs⟩:=HS.out.2.2 k' y hy
     refine ⟨u,by rw [List.getElem?_set_ne (fun e=>hkk e.symm)]; exact hu,?_⟩
     rw [HT.out.1 k' y hy hkk]
     exact hs
 ·rintro e W2 ⟨he,hS2⟩
  refine ⟨he,hS2.ll,?_⟩
  have hT:=hS2.turn hPJ hfs (rec .exhausted none)
  generalize W2.putObj (w.heap.size+3) (.loop (rec .exhausted none))=We at *
  have cb2:We.cell? ⟨w.heap.size,0,none⟩=some (ptr b):=by rw [hT.b0.cell]; rfl
  have hkb:We.heap[b]? = w.heap[b]?:=hT.only.block b (h.fl _ h.fb) (fun e=>e.elim h.b_ne.1 (fun e=>(hPS _ e).1 h.fb))
  have c1:We.cell? ⟨b,1,none⟩=some (.map (some mb)):=(World.cell?_of_block (w:=w) (a:=⟨b,1,none⟩) hkb).trans h.cells.2.1
  have f1:We.frozen? ⟨b,1,none⟩=false:=(World.frozen?_of_block (w:=w) (a:=⟨b,1,none⟩) hkb).trans h.cells.2.2.2.2.1
  have hmm := @run_makeMap Tryz.prog
  have hhead:=(h.head.kept hkb).alloc (.map #[] 0)
  have c1':(We.alloc (.map #[] 0)).cell? ⟨b,1,none⟩=some (.map (some mb)):=by rw [hhead.cell]; rfl
  have f1':=hhead.frozen 1
  clear hhead
  obtain ⟨svi,hsc,hsl,hsv⟩:=hT.row
  have hfin:=settle_dev h hT.only (fun q hq=>hq.imp id fun hp=>(hPS q hp).1) hsc hsl (bk:=settled D.bk ps) (settled_length _ _) (fun k y hy=>by
   have hk:k < D.bk.length:=by
    have:=(List.getElem?_eq_some_iff.1 hy).1
    rw [settled_length] at this
    exact this
   obtain ⟨x,hx⟩:∃ x,D.bk[k]? = some x:=⟨_,List.getElem?_eq_getElem hk⟩
   rw [settled_at _ _ _ _ hx] at hy
   cases hy
   refine ⟨rfl,?_⟩
   obtain ⟨u,hu,hs⟩:=hsv k x hx
   refine ⟨u,hu,?_⟩
   unfold target at hs
   by_cases hl:x.loose=[]
   ·rw [if_neg (by simp [hl])] at hs
    simpa [hl] using hs
   ·have hm:k∈loosen D.bk:=mem_loosen.2 ⟨hk,by rw [looseAt_get hx]; exact hl⟩
    have hci:=(List.getElem?_eq_some_iff.1 (loosen_at hm)).1
    rw [if_pos ⟨hl,hci⟩] at hs
    simp only [hl,if_false]
    rw [hps k x hx hl]
    exact hs)
  have hD:=hT.dd
  have hze:=hT.only.size
  have hzl:=(Array.getElem?_eq_some_iff.1 hT.dd).1
  have FIN:=Lib.hid (anZ hfin (anZ hD (anZ hze hzl)))
  have HF:=Lib.hid (anZ hPS h)
  clear hfin hD hze hzl hT hS2 hsv hsc hPS hPJ hpick hpk hps hsmall h0 hS1 h1 hwW1 hbw1 hbw hcb hcp hrec hW1 he hkb h
  gi_wp2
  have hdd:((We.alloc (.map #[] 0)).setCell ⟨b,1,none⟩ (.map (some We.heap.size))).heap[w.heap.size+2]? = some (.deferred (some [])) :=
   (Below.heap_setCell _ ⟨b,1,none⟩ _ _ (fun e:w.heap.size+2=b=>by have:=HF.out.2.fl _ HF.out.2.fb; omega)).trans ((Below.heap_alloc _ _ _ FIN.out.2.2.2).trans FIN.out.2.1)
  refine ⟨by simp, .inl ⟨_,_,rfl,run_takeDeferred hdd,?_⟩⟩
  refine ⟨_,results_none rfl _ _ _,rfl,?_,?_⟩
  ·refine (FIN.out.1.1.kept (fun q hq=>World.putObj_heap_other ?_) (by simp [World.putObj])).widen (fun q hq=>?_) (fun q hq=>?_)
   ·rcases hq with hq | hq
    ·have:=HF.out.2.fl q hq
     omega
    ·have:=FIN.out.2.2.2
     omega
   ·rcases hq with hq | hq
    ·exact .inl hq
    ·exact .inr ⟨by have:=FIN.out.2.2.1; omega,by simp [World.putObj,World.setCell]; omega⟩
   ·rcases hq with hq | hq
    ·have:=HF.out.2.fl q hq
     have:=FIN.out.2.2.1
     simp [World.putObj,World.setCell]
     omega
    ·exact hq.2
  ·exact (FIN.out.1.2.grown (grownBy_putObj' _ _ _) (fun q e=>by cases e; exact .inr (by omega))).mono (fun q _ hq=>by
    rcases hq with (rfl | hq) | hq
    ·exact .inl HF.out.2.fs
    ·exact .inr hq
    ·exact .inl hq)
end Go.Proofs.YtgkofgifoiinkaaGreat
namespace Go.Proofs.YtgkofgifoiinkaaGreat
open Go.RowKit Go.Maps
def lens:List Bk→List Nat
 | []=>[]
 | b::r=>if b.loose=[] then lens r else b.loose.length::lens r
theorem lens_at:∀ (l:List Bk) (k:Nat) (x:Bk),l[k]? = some x→x.loose≠[]→(lens l)[cnt l k]? = some x.loose.length
 | [],k,x,h,_=>by simp at h
 | b::r,0,x,h,hl=>by
  simp only [List.getElem?_cons_zero,Option.some.injEq] at h
  subst h
  rw [cnt_zero,lens,if_neg hl]
  rfl
 | b::r,k+1,x,h,hl=>by
  simp only [List.getElem?_cons_succ] at h
  rw [cnt_cons,lens]
  split
  ·exact lens_at r k x h hl
  ·rw [List.getElem?_cons_succ]
   exact lens_at r k x h hl
theorem settled_lens (l:List Bk):settled l (lens l)=flushed l:=by
 apply List.ext_getElem?
 intro k
 rcases h:l[k]? with _ | x
 ·rw [List.getElem?_eq_none (by rw [settled_length]; exact List.getElem?_eq_none_iff.1 h),List.getElem?_eq_none (by simp [flushed]; exact List.getElem?_eq_none_iff.1 h)]
 ·rw [settled_at l _ k x h]
  have:(flushed l)[k]? = some ⟨x.stands,[]⟩:=by simp [flushed,h]
  rw [this]
  congr 2
  split
  ·rename_i h0
   exact (Bk.stands_nil h0).symm
  ·rename_i h0
   rw [lens_at l k x h h0]
   exact x.picked_all
def pickAt (ps:List Int) (i m:Nat):Nat:=pickN ((ps[i]?).getD 0) m
theorem comes_at:∀ (l:List Bk) (ps:List Int) (k:Nat) (x:Bk),l[k]? = some x→(comes l ps)[k]? = some ⟨if x.loose=[] then x.sure else x.picked (pickAt ps (cnt l k) x.loose.length),[]⟩
 | [],_,k,x,h=>by simp at h
 | b::r,ps,0,x,h=>by
  simp only [List.getElem?_cons_zero,Option.some.injEq] at h
  subst h
  unfold comes pickAt
  rw [cnt_zero]
  split
  ·simp
  ·simp only [List.getElem?_cons_zero]
   cases ps <;> simp
 | b::r,ps,k+1,x,h=>by
  simp only [List.getElem?_cons_succ] at h
  unfold comes
  rw [cnt_cons]
  split
  ·simp only [List.getElem?_cons_succ]
   rw [comes_at r ps k x h]
   simp
  ·simp only [List.getElem?_cons_succ]
   rw [comes_at r ps.tail k x h]
   unfold pickAt
   cases ps <;> simp
def picksOf (l:List Bk) (ps:List Int):List Nat:=(List.range l.length).map fun k=>pickAt ps k ((lens l)[k]?.getD 0)
theorem cnt_lt {l:List Bk} {k:Nat} {x:Bk} (h:l[k]? = some x):cnt l k < l.length:=by
 have hk:=(List.getElem?_eq_some_iff.1 h).1
 unfold cnt
 refine Nat.lt_of_le_of_lt List.countP_le_length ?_
 rw [List.length_take]
 omega
theorem picksOf_at {l:List Bk} {ps:List Int} {k:Nat} {x:Bk} (h:l[k]? = some x) (hl:x.loose≠[]):((picksOf l ps)[cnt l k]?).getD 0=pickAt ps (cnt l k) x.loose.length:=by
 unfold picksOf
 rw [List.getElem?_map,List.getElem?_range (cnt_lt h)]
 simp only [Option.map_some,Option.getD_some]
 rw [lens_at l k x h hl]
 rfl
theorem settled_picks (l:List Bk) (ps:List Int):settled l (picksOf l ps)=comes l ps:=by
 apply List.ext_getElem?
 intro k
 rcases h:l[k]? with _ | x
 ·rw [List.getElem?_eq_none (by rw [settled_length]; exact List.getElem?_eq_none_iff.1 h),List.getElem?_eq_none (by rw [comes_length]; exact List.getElem?_eq_none_iff.1 h)]
 ·rw [settled_at l _ k x h,comes_at l ps k x h]
  congr 2
  split
  ·rfl
  ·rename_i h0
   rw [picksOf_at h h0]
section
variable {w:World} {b:Nat} {D:Dv} {F:Nat→Prop}
theorem flush1_any (m:Nat) (w:World):Calls Tryz.prog 101 #[.int .i64 (m:Int)] w fun e w'=>e = .returned (.int .i64 (m:Int))∧w=w':=by
 go_enter Tryz.func101,Tryz.ntmps101
 go_wp2
 go_ret
 exact ⟨rfl,rfl⟩
theorem settle_flush (h:Dev w b D F) (hsmall:∀ (k:Nat) (x:Bk),D.bk[k]? = some x→x.loose.length < 4294967296) :
  Calls Tryz.prog 58 #[ptr b, .func (.func 101) #[] #[]] w fun e w'=>e = .returned (.tuple #[])∧Dev w' b ⟨flushed D.bk,D.on,D.left⟩ (Grow F w w')∧Only F w w':=by
 obtain ⟨sb,mb,sv,lv,Dm,h⟩:=h
 have hp:∀ (i m:Nat) (W:World),True→0 < m→m < 4294967296→i < (loosen D.bk).length→Calls Tryz.prog 101 (#[.int .i64 (m:Int)] ++ #[]) W fun e W'=>e = .returned (.int .i64 (m:Nat))∧True∧Only (fun _=>False) W W':=fun i m W _ _ _ _=>by
  rw [Array.append_empty]
  refine (flush1_any m W).mono ?_
  rintro e w' ⟨rfl,rfl⟩
  exact ⟨rfl,trivial,Only.refl _ _⟩
 refine (settle_in 12 (Nat.le_refl _) h (gf:=101) (caps := #[]) (enters_of Tryz.func101 (by kernel_rfl) rfl) (fun _ m=>m) (fun _ _=>True) (PS:=fun _=>False) (fun _ hh=>hh.elim) trivial (fun _ _ _ _ _=>trivial) (fun _ _=>Nat.le_refl _)
  hp hsmall (lens D.bk) (fun k x hx hl=>by rw [lens_at D.bk k x hx hl]; rfl)).mono ?_
 rintro e w' ⟨rfl,hd,ho⟩
 rw [settled_lens] at hd
 exact ⟨rfl,hd,ho.mono fun q _ hq=>hq.elim id False.elim⟩
theorem flush_off (h:Dev w b D F) (ho:D.on=false):Calls Tryz.prog 72 #[ptr b] w fun e w'=>e = .returned (err 8)∧w=w':=by
 go_enter Tryz.func72,Tryz.ntmps72
 go_wp2_with fail
 refine (ready_off h ho).mono ?_
 rintro e w1 ⟨rfl,rfl⟩
 go_wp2
 go_ret
 exact ⟨rfl,rfl⟩
theorem flush_dies (h:Dev w b D F) (ho:D.on=true) (hz:D.left=0):Calls Tryz.prog 72 #[ptr b] w fun e w'=>e = .returned (err 8)∧Dev w' b ⟨D.bk,false,D.left⟩ F∧Only (· = b) w w':=by
 have HO:=Lib.hid (anZ ho hz)
 clear ho hz
 go_enter Tryz.func72,Tryz.ntmps72
 go_wp2_with fail
 refine (ready_on h HO.out.1).mono ?_
 rintro e w1 ⟨rfl,rfl⟩
 go_wp2_with fail
 refine (spend_dies h HO.out.2).mono ?_
 rintro e w1 ⟨rfl,hh⟩
 go_wp2
 go_ret
 exact ⟨rfl,hh.dev h rfl⟩
theorem two_steps {w1 w2:World} {D':Dv} (h:Dev w b D F) (h1:Only (· = b) w w1) (h2:Dev w2 b D' (Grow F w1 w2)) (h3:Only F w1 w2):Dev w2 b D' (Grow F w w2)∧Only F w w2:=by
 have hb:F b:=by obtain ⟨sb,mb,sv,lv,Dm,h⟩:=h; exact h.fb
 have hz1:=h1.size
 have hz2:=h3.size
 refine ⟨h2.widen (fun q hq=>hq.imp id fun hq=>⟨by omega,hq.2⟩) (fun q hq=>?_),(h1.mono (fun q _ e=>e ▸ hb)).trans h3⟩
 rcases hq with hq | hq
 ·have:=h.fl q hq
  omega
 ·exact hq.2
theorem flush_ok (h:Dev w b D F) (ho:D.on=true) (hz:D.left≠0) (hsmall:∀ (k:Nat) (x:Bk),D.bk[k]? = some x→x.loose.length < 4294967296) :
  Calls Tryz.prog 72 #[ptr b] w fun e w'=>e = .returned (err 0)∧Dev w' b ⟨flushed D.bk,D.on,spent D.left⟩ (Grow F w w')∧Only F w w':=by
 have HO:=Lib.hid (anZ ho (anZ hz hsmall))
 clear ho hz hsmall
 go_enter Tryz.func72,Tryz.ntmps72
 go_wp2_with fail
 refine (ready_on h HO.out.1).mono ?_
 rintro e w1 ⟨rfl,rfl⟩
 go_wp2_with fail
 refine (spend_goes h HO.out.2.1).mono ?_
 rintro e w1 ⟨rfl,hh⟩
 obtain ⟨h1,o1⟩:=hh.dev h rfl
 clear hh
 go_wp2_with fail
 refine (settle_flush h1 HO.out.2.2).mono ?_
 rintro e w2 ⟨rfl,h2,o2⟩
 go_wp2
 go_ret
 exact ⟨rfl,two_steps h o1 h2 o2⟩
end
end Go.Proofs.YtgkofgifoiinkaaGreat
