/- The keys of what is loose, sorted: the numbers of the blocks that have something loose, rising; no condition. -/
import Derived.Test.YtgkofgifoiinkaaGreatN01
import Derived.Laws.CopyOwn
import Derived.Maps.OwnSet
import Derived.Maps.AppendAt
import Derived.Maps.Range
import Derived.Test.YtgkofgifoiinkaaGreatN07
import Derived.RangeFuncNested
import Derived.RangeFuncBound
import Derived.RangeFuncCalls
import Derived.RangeFuncLeaves
import Derived.OwnWalkIn
import Derived.TacticsInMore
import Derived.LoopNIn
import Derived.LoopIn
namespace Go.Proofs.YtgkofgifoiinkaaGreat
open Go.RowKit
theorem Ow.cel {w:World} {base g n:Nat} {e:TypeId} {l:List UInt8} (h:Ow w base e (.slice (some ⟨g,0,none⟩) n n) l):Cel w g (bvs l) e∧base≤g∧l.length=n:=by
 rcases h.2 with ⟨h2,_⟩ | ⟨g',cap',cur,hv,hbg,hg,hn,hm,hs,ht⟩
 ·cases h2
 ·simp only [Value.slice.injEq,Option.some.injEq,Addr.mk.injEq] at hv
  obtain ⟨⟨rfl,_⟩,hln,rfl⟩:=hv
  have:cur.toList=bvs l:=by rw [← ht,List.take_of_length_le (by simp [hs, ← hln])]
  refine ⟨?_,hbg,hln.symm⟩
  unfold Cel
  rw [← this]
  simpa using hg
def Makes (w:World) (l:Bytes) (e:Ending) (w':World):Prop:=∃ g,e = .returned (.slice (some ⟨g,0,none⟩) 512 512)∧Cel w' g (bvs l) 5∧w.heap.size≤g∧Below w.heap.size w w'
theorem Makes.blk {w w':World} {l:Bytes} {e:Ending} (h:Makes w l e w') (hl:l.length=512):∃ v,e = .returned v∧Blk w' v l∧(∀ g,v.ownBlock=some g→w.heap.size≤g)∧Below w.heap.size w w':=by
 obtain ⟨g,rfl,hc,hg,hb⟩:=h
 exact ⟨_,rfl,⟨g,rfl,hc,hl⟩,(fun g' e=>by cases e; exact hg),hb⟩
def padded (l:Bytes):Bytes:=l++List.replicate (512-l.length) 0
theorem padded_full {l:Bytes} (h:l.length=512):padded l=l:=by simp [padded,h]
theorem pad_gen (n:Nat) (l:Bytes):splice (bvs (List.replicate n 0)) 0 (bvs l)=bvs (l++List.replicate (n-l.length) 0):=by
 simp [splice,bvs,List.drop_replicate]
theorem padded_nil:padded []=noughts:=rfl
set_option maxHeartbeats 400000 in
set_option maxRecDepth 100000 in
theorem newBlock_any {b:Value} {l:Bytes} (w:World) (hb:Bs w b l) (hl:l.length≤512) :
  Calls Tryz.prog 100 #[b] w (Makes w (padded l)):=by
 obtain ⟨w1,hmk,o1,g1⟩:=run_zeros_bs bt w w.heap.size .i64 .i64 512 (by decide) (Nat.le_refl _)
 rw [show ((512:Nat):Int)=512 from rfl] at hmk
 have hbl:(bvs noughts).length=512:=by rw [bvs_length]; exact List.length_replicate
 have b1:Below w.heap.size w w1:=(Below.refl _ _).grown g1 (Nat.le_refl _) (fun _ h=>by cases h)
 obtain ⟨c1,_,_⟩:=o1.cel
 have hb1:=hb.below b1
 obtain ⟨a,cap,rfl,h2,h3,h4,h5⟩:=hb1
 have hz:List.replicate 512 (0:UInt8)=noughts:=rfl
 rw [hz] at c1
 have hsp:splice (bvs noughts) 0 (bvs l)=bvs (padded l):=pad_gen 512 l
 have H:=Lib.hid (anZ hsp hl)
 have HB:=Lib.hid hbl
 clear hsp o1 hb hz hl hbl
 go_enter Tryz.func100,Tryz.ntmps100
 go_wp2_with (refine wpList_copy_splice rfl (.tmp 5) (.tmp 6) 24 24 rfl 5 Tryz.underlying24 (by kernel_rfl) (some ⟨w.heap.size,0,none⟩) a 512 512 l.length cap rfl rfl w.heap.size 0 (bvs noughts) 5 c1 (bvs l) ?c1 ?c2 ?c3 bvs_one w.heap.size w1 (Below.refl _ _) (Nat.le_refl _) ?_)
 case c1=>rw [bvs_length]; have:=H.out.2; exact (Nat.min_eq_left this).symm
 case c2 =>
  intro hp
  rcases a with _ | a
  ·have:=h4 rfl
   rw [bvs_length] at hp; omega
  ·exact ⟨a,rfl,fun j v hj=>h5 a rfl j v hj⟩
 case c3=>rw [HB.out,bvs_length]; have:=H.out.2; omega
 intro w2 hg2 hb2
 go_wp2
 go_ret
 refine ⟨w.heap.size,rfl,?_,Nat.le_refl _,b1.trans (hb2.mono (Nat.le_refl _))⟩
 have:=hg2.out
 rw [H.out.1] at this
 exact this
end Go.Proofs.YtgkofgifoiinkaaGreat
namespace Go.Proofs.YtgkofgifoiinkaaGreat
open Go.RowKit Go.Maps
abbrev nilSl:Value:=.slice none 0 0
abbrev keyL (k:Nat):Lit:=.int .i64 (k:Int)
def rawR (v:Value):Option (DataW Value × List MemPlace):=some (.held v,[])
def BlkF (w:World) (F:Nat→Prop) (v:Value) (l:Bytes):Prop:=∃ g,v = .slice (some ⟨g,0,none⟩) 512 512∧Cel w g (bvs l) 5∧l.length=512∧F g
theorem BlkF.blk {w:World} {F:Nat→Prop} {v:Value} {l:Bytes} (h:BlkF w F v l):Blk w v l:=let ⟨g,h1,h2,h3,_⟩:=h; ⟨g,h1,h2,h3⟩
theorem BlkF.kept {w w':World} {F F':Nat→Prop} {v:Value} {l:Bytes} (h:BlkF w F v l) (hk:∀ g,F g→(∃ cs,Cel w g cs 5)→w'.heap[g]? = w.heap[g]?) (hf:∀ g,F g→F' g):BlkF w' F' v l:=by
 obtain ⟨g,rfl,hc,hl,hg⟩:=h
 exact ⟨g,rfl,hc.kept (hk g hg ⟨_,hc⟩),hl,hf g hg⟩
def RowF (w:World) (F:Nat→Prop) (v:Value) (ls:List Bytes):Prop :=
 ∃ vals,w.ownsRow 0 24 1 v ls.length vals∧(∀ (i:Nat) (l:Bytes),ls[i]? = some l→∃ u,vals[i]? = some u∧BlkF w F u l)∧∀ g,v.ownBlock=some g→F g
theorem RowF.nil (w:World) (F:Nat→Prop):RowF w F nilSl []:=⟨[],World.ownsRow_nil _ _ _ _,(fun i l h=>by simp at h),fun g h=>by cases h⟩
theorem RowF.typed {w:World} {F:Nat→Prop} {v:Value} {ls:List Bytes} (h:RowF w F v ls):∀ g,v.ownBlock=some g→∃ cs,Cel w g cs 24:=by
 intro g hg
 obtain ⟨vals,ho,_,_⟩:=h
 rcases ho.2 with ⟨rfl,_⟩ | ⟨g',cap,cur,rfl,_,hh,_⟩
 ·cases hg
 ·cases hg
  exact ⟨cur.toList,by simpa [Cel] using hh⟩
theorem RowF.kept {w w':World} {F F':Nat→Prop} {v:Value} {ls:List Bytes} (h:RowF w F v ls) (hk:∀ g,F g→(∃ cs,Cel w g cs 5)→w'.heap[g]? = w.heap[g]?)
  (hv:∀ g,v.ownBlock=some g→w'.heap[g]? = w.heap[g]?) (hf:∀ g,F g→F' g):RowF w' F' v ls:=by
 obtain ⟨vals,ho,hb,hg⟩:=h
 refine ⟨vals,⟨ho.1,?_⟩,fun i l hi=>?_,fun g e=>hf g (hg g e)⟩
 ·rcases ho.2 with h' | ⟨g,cap,cur,rfl,hbg,hh,r⟩
  ·exact .inl h'
  ·exact .inr ⟨g,cap,cur,rfl,hbg,(hv g rfl).trans hh,r⟩
 ·obtain ⟨u,hu,hx⟩:=hb i l hi
  exact ⟨u,hu,hx.kept hk hf⟩
theorem RowF.shape {w:World} {F:Nat→Prop} {v:Value} {ls:List Bytes} (h:RowF w F v ls):∃ a cap,v = .slice a ls.length cap:=by
 obtain ⟨vals,ho,_,_⟩:=h
 rcases ho.2 with ⟨rfl,h0⟩ | ⟨g,cap,cur,rfl,_⟩
 ·exact ⟨none,0,by rw [h0]⟩
 ·exact ⟨_,cap,rfl⟩
theorem RowF.len {w:World} {F:Nat→Prop} {v:Value} {ls:List Bytes} (h:RowF w F v ls):ls.length≤9223372036854775807:=by
 obtain ⟨vals,ho,_,_⟩:=h
 rcases ho.2 with ⟨rfl,h0⟩ | ⟨g,cap,cur,rfl,_,_,h1,h2,_⟩
 ·omega
 ·unfold maxLen at h2; omega
theorem RowF.some {w:World} {F:Nat→Prop} {v:Value} {ls:List Bytes} (h:RowF w F v ls) (hn:0 < ls.length) :
  ∃ g cap,v = .slice (some ⟨g,0,none⟩) ls.length cap∧∀ (i:Nat) (l:Bytes),ls[i]? = some l→∃ u,w.cell? ⟨g,i,none⟩=some u∧BlkF w F u l:=by
 obtain ⟨vals,ho,hb,hg⟩:=h
 rcases ho.2 with ⟨rfl,h0⟩ | ⟨g,cap,cur,rfl,hbg,hh,r⟩
 ·omega
 ·refine ⟨g,cap,rfl,fun i l hi=>?_⟩
  obtain ⟨u,hu,hx⟩:=hb i l hi
  have hlt:=(List.getElem?_eq_some_iff.1 hi).1
  refine ⟨u,?_,hx⟩
  rw [ho.cellAt i (by omega)]
  exact hu
structure DevAt (w:World) (b sb mb:Nat) (sv:List Value) (lv:Nat→Value) (Dm:DataW Value) (D:Dv) (F:Nat→Prop):Prop where
 head:Cel w b [.slice (some ⟨sb,0,none⟩) D.bk.length D.bk.length, .map (some mb), .bool D.on, .int .i64 D.left] 72
 rows:Cel w sb sv 24
 svl:sv.length=D.bk.length
 sure:∀ (k:Nat) (x:Bk),D.bk[k]? = some x→∃ u,sv[k]? = some u∧(u=nilSl∧x.sure=noughts∨BlkF w F u x.sure)
 map:w.ownsMap Tryz.prog 3 rawR mb 4096 Dm
 keys:∀ (k:Nat) (x:Bk),D.bk[k]? = some x→Maps.has Dm (keyL k) = !x.loose.isEmpty∧Dm.atKey (keyL k) (.held nilSl) = .held (lv k)
 only:∀ kl,Maps.has Dm kl=true→∃ k,k < D.bk.length∧kl=keyL k
 loose:∀ (k:Nat) (x:Bk),D.bk[k]? = some x→RowF w F (lv k) x.loose
 apart:∀ j k,j < D.bk.length→k < D.bk.length→j≠k→(lv j).ownBlock=none∨(lv j).ownBlock≠(lv k).ownBlock
 off:∀ k,k < D.bk.length→(lv k).ownBlock≠some sb
 fb:F b
 fs:F sb
 fm:F mb
 fl:∀ g,F g→g < w.heap.size
 pos:0 < D.bk.length
 few:D.bk.length≤4096
 low : -1≤D.left
 high:D.left≤9223372036854775807
def Dev (w:World) (b:Nat) (D:Dv) (F:Nat→Prop):Prop:=∃ sb mb sv lv Dm,DevAt w b sb mb sv lv Dm D F
section
variable {w w':World} {b sb mb:Nat} {sv:List Value} {lv:Nat→Value} {Dm:DataW Value} {D:Dv} {F F':Nat→Prop}
theorem ownsMap_kept' {R:Value→Option (DataW Value × List MemPlace)} {n:Nat} (h:w.ownsMap Tryz.prog 3 R mb n Dm) (hk:w'.heap[mb]? = w.heap[mb]?):w'.ownsMap Tryz.prog 3 R mb n Dm:=by
 obtain ⟨es,clock,hb,r⟩:=h
 exact ⟨es,clock,hk.trans hb,r⟩
theorem DevAt.kept (h:DevAt w b sb mb sv lv Dm D F) (hk:∀ g,F g→w'.heap[g]? = w.heap[g]?) (hs:w.heap.size≤w'.heap.size):DevAt w' b sb mb sv lv Dm D F where
 head:=h.head.kept (hk b h.fb)
 rows:=h.rows.kept (hk sb h.fs)
 svl:=h.svl
 sure k x hx:=by
  obtain ⟨u,hu,hx'⟩:=h.sure k x hx
  exact ⟨u,hu,hx'.imp id fun hb=>hb.kept (fun g hg _=>hk g hg) fun _ h=>h⟩
 map:=ownsMap_kept' h.map (hk mb h.fm)
 keys:=h.keys
 only:=h.only
 loose k x hx:=by
  have hr:=h.loose k x hx
  exact hr.kept (fun g hg _=>hk g hg) (fun g hg=>by obtain ⟨_,_,_,hf⟩:=hr; exact hk g (hf g hg)) fun _ h=>h
 apart:=h.apart
 off:=h.off
 fb:=h.fb
 fs:=h.fs
 fm:=h.fm
 fl g hg:=Nat.lt_of_lt_of_le (h.fl g hg) hs
 pos:=h.pos
 few:=h.few
 low:=h.low
 high:=h.high
theorem Dev.kept (h:Dev w b D F) (hk:∀ g,F g→w'.heap[g]? = w.heap[g]?) (hs:w.heap.size≤w'.heap.size):Dev w' b D F:=by
 obtain ⟨sb,mb,sv,lv,Dm,h⟩:=h
 exact ⟨sb,mb,sv,lv,Dm,h.kept hk hs⟩
theorem BlkF.widen {v:Value} {l:Bytes} (h:BlkF w F v l) (hf:∀ g,F g→F' g):BlkF w F' v l:=h.kept (fun _ _ _=>rfl) hf
theorem Dev.widen (h:Dev w b D F) (hf:∀ g,F g→F' g) (hs:∀ g,F' g→g < w.heap.size):Dev w b D F':=by
 obtain ⟨sb,mb,sv,lv,Dm,h⟩:=h
 exact ⟨sb,mb,sv,lv,Dm, {
  head:=h.head,rows:=h.rows,svl:=h.svl
  sure:=fun k x hx=>by
   obtain ⟨u,hu,hx'⟩:=h.sure k x hx
   exact ⟨u,hu,hx'.imp id fun hb=>hb.widen hf⟩
  map:=h.map,keys:=h.keys,only:=h.only
  loose:=fun k x hx=>(h.loose k x hx).kept (fun _ _ _=>rfl) (fun _ _=>rfl) hf
  apart:=h.apart,off:=h.off,fb:=hf _ h.fb,fs:=hf _ h.fs,fm:=hf _ h.fm,fl:=hs
  pos:=h.pos,few:=h.few,low:=h.low,high:=h.high }⟩
theorem Dev.fl (h:Dev w b D F):∀ g,F g→g < w.heap.size:=by obtain ⟨sb,mb,sv,lv,Dm,h⟩:=h; exact h.fl
theorem Dev.other {S:Nat→Prop} (h:Dev w b D F) (ho:Only S w w') (hd:∀ g,F g→¬ S g):Dev w' b D F:=h.kept (fun g hg=>ho.block g (h.fl g hg) (hd g hg)) ho.size
theorem Dev.below (h:Dev w b D F) (hb:Below w.heap.size w w'):Dev w' b D F:=h.kept (fun g hg=>hb.block g (h.fl g hg)) hb.size
theorem DevAt.cells (h:DevAt w b sb mb sv lv Dm D F) :
  w.cell? ⟨b,0,none⟩=some (.slice (some ⟨sb,0,none⟩) D.bk.length D.bk.length)∧w.cell? ⟨b,1,none⟩=some (.map (some mb))∧w.cell? ⟨b,2,none⟩=some (.bool D.on)∧w.cell? ⟨b,3,none⟩=some (.int .i64 D.left) ∧
  w.frozen? ⟨b,1,none⟩=false∧w.frozen? ⟨b,2,none⟩=false∧w.frozen? ⟨b,3,none⟩=false:=by
 refine ⟨?_,?_,?_,?_,h.head.frozen 1,h.head.frozen 2,h.head.frozen 3⟩ <;> rw [h.head.cell] <;> rfl
theorem DevAt.b_ne (h:DevAt w b sb mb sv lv Dm D F):b≠sb∧b≠mb∧sb≠mb:=by
 obtain ⟨es,clock,hm,_⟩:=h.map
 refine ⟨fun e=>?_,fun e=>?_,fun e=>?_⟩
 ·subst e
  have:=(h.head.inj h.rows).2
  cases this
 ·subst e
  rw [show w.heap[b]? = _ from h.head] at hm
  cases hm
 ·subst e
  rw [show w.heap[sb]? = _ from h.rows] at hm
  cases hm
theorem DevAt.b_not (h:DevAt w b sb mb sv lv Dm D F) {g:Nat} {cs:List Value} {t:TypeId} (hc:Cel w g cs t) (ht:t≠72):g≠b:=fun e=>by
 subst e
 exact ht (hc.inj h.head).2
theorem DevAt.rehead (h:DevAt w b sb mb sv lv Dm D F) {on:Bool} {left:Int} (hh:Cel w' b [.slice (some ⟨sb,0,none⟩) D.bk.length D.bk.length, .map (some mb), .bool on, .int .i64 left] 72)
  (ho:Only (· = b) w w') (h1 : -1≤left) (h2:left≤9223372036854775807):DevAt w' b sb mb sv lv Dm ⟨D.bk,on,left⟩ F:=by
 have hk:∀ g,g < w.heap.size→g≠b→w'.heap[g]? = w.heap[g]?:=fun g hg hne=>ho.block g hg hne
 have hbyte:∀ g,F g→(∃ cs,Cel w g cs 5)→w'.heap[g]? = w.heap[g]?:=fun g hg ⟨cs,hc⟩=>hk g (h.fl g hg) (h.b_not hc (by decide))
 exact {
  head:=hh
  rows:=h.rows.kept (hk sb (h.fl _ h.fs) (h.b_ne.1.symm))
  svl:=h.svl
  sure:=fun k x hx=>by
   obtain ⟨u,hu,hx'⟩:=h.sure k x hx
   exact ⟨u,hu,hx'.imp id fun hb=>hb.kept hbyte fun _ h=>h⟩
  map:=ownsMap_kept' h.map (hk mb (h.fl _ h.fm) (h.b_ne.2.1.symm))
  keys:=h.keys
  only:=h.only
  loose:=fun k x hx=>by
   have hr:=h.loose k x hx
   exact hr.kept hbyte (fun g hg=>by
    obtain ⟨cs,hc⟩:=hr.typed g hg
    exact hk g hc.lt (h.b_not hc (by decide))) fun _ h=>h
  apart:=h.apart
  off:=h.off
  fb:=h.fb
  fs:=h.fs
  fm:=h.fm
  fl:=fun g hg=>Nat.lt_of_lt_of_le (h.fl g hg) ho.size
  pos:=h.pos
  few:=h.few
  low:=h1
  high:=h2 }
theorem int_look (k:Nat) (hk:k < 9223372036854775808):keyOf Tryz.prog 3 (.int .i64 (k:Int))=some (keyL k) :=
 keyOf_int_mk Tryz.underlying3 (by
  have h1:IntKind.i64.min = -9223372036854775808:=by decide
  have h2:IntKind.i64.max=9223372036854775807:=by decide
  simp only [Lit.wf,h1,h2,Bool.and_eq_true,decide_eq_true_eq]
  omega)
theorem look_own (h:w.ownsMap Tryz.prog 3 rawR mb 4096 Dm) {k:Nat} (hk:k < 9223372036854775808) {v:Value} (hv:Dm.atKey (keyL k) (.held nilSl) = .held v):(Instr.lookup 70 (.map (some mb)) (.int .i64 (k:Int)) false).run Tryz.prog w = .ok v w:=by
 obtain ⟨v',ps,hrun,hv'⟩:=h.lookup (t:=70) (e:=69) (int_keyed Tryz.underlying3) Tryz.underlying70 (z:=nilSl) (by kernel_rfl) (zd:=.held nilSl) (zp:=[]) rfl (int_look k hk)
 rw [hv] at hv'
 simp only [rawR,Option.some.injEq,Prod.mk.injEq,DataW.held.injEq] at hv'
 rw [← hv'.1]
 exact hrun
theorem DevAt.look (h:DevAt w b sb mb sv lv Dm D F) {k:Nat} {x:Bk} (hx:D.bk[k]? = some x):(Instr.lookup 70 (.map (some mb)) (.int .i64 (k:Int)) false).run Tryz.prog w = .ok (lv k) w :=
 look_own h.map (by have:=(List.getElem?_eq_some_iff.1 hx).1; have:=h.few; omega) (h.keys k x hx).2
theorem DevAt.lv_nil (h:DevAt w b sb mb sv lv Dm D F) {k:Nat} {x:Bk} (hx:D.bk[k]? = some x) (hl:x.loose=[]):lv k=nilSl:=by
 obtain ⟨h1,h2⟩:=h.keys k x hx
 rw [hl] at h1
 rw [atKey_of_not_has (by simpa using h1)] at h2
 exact (DataW.held.inj h2).symm
theorem BlkF.open {v:Value} {l:Bytes} (h:BlkF w F v l):∃ g,v = .slice (some ⟨g,0,none⟩) 512 512∧Bs w (.slice (some ⟨g,0,none⟩) 512 512) l∧l.length=512:=by
 have hb:=h.blk.bs
 obtain ⟨g,rfl,_,hl,_⟩:=h
 exact ⟨g,rfl,hb,hl⟩
end
end Go.Proofs.YtgkofgifoiinkaaGreat
namespace Go.Proofs.YtgkofgifoiinkaaGreat
open Go.RowKit Go.Maps
section
variable {w:World} {b:Nat} {D:Dv} {F:Nat→Prop}
theorem ready_on (h:Dev w b D F) (ho:D.on=true):Calls Tryz.prog 57 #[ptr b] w fun e w'=>e = .returned (err 0)∧w=w':=by
 obtain ⟨sb,mb,sv,lv,Dm,h⟩:=h
 have c2:=h.cells.2.2.1
 rw [ho] at c2
 clear h ho
 go_enter Tryz.func57,Tryz.ntmps57
 go_wp2
 go_ret
 exact ⟨rfl,rfl⟩
theorem ready_off (h:Dev w b D F) (ho:D.on=false):Calls Tryz.prog 57 #[ptr b] w fun e w'=>e = .returned (err 8)∧w=w':=by
 obtain ⟨sb,mb,sv,lv,Dm,h⟩:=h
 have c2:=h.cells.2.2.1
 rw [ho] at c2
 clear h ho
 go_enter Tryz.func57,Tryz.ntmps57
 go_wp2
 go_ret
 exact ⟨rfl,rfl⟩
theorem has_yes (h:Dev w b D F) (k:Nat) (hk:k < D.bk.length):Calls Tryz.prog 98 #[ptr b, .int .i64 (k:Int)] w fun e w'=>e = .returned (.bool true)∧w=w':=by
 obtain ⟨sb,mb,sv,lv,Dm,h⟩:=h
 have c0:=h.cells.1
 have hf:=h.few
 have ht:((k:Int) < (D.bk.length:Int)):=by omega
 clear h
 go_enter Tryz.func98,Tryz.ntmps98
 go_wp2
 go_ret
 exact ⟨rfl,rfl⟩
theorem has_no (h:Dev w b D F) (k:Int) (hk:k < 0∨(D.bk.length:Int)≤k):Calls Tryz.prog 98 #[ptr b, .int .i64 k] w fun e w'=>e = .returned (.bool false)∧w=w':=by
 obtain ⟨sb,mb,sv,lv,Dm,h⟩:=h
 have c0:=h.cells.1
 have hf:=h.few
 by_cases h0:k < 0
 ·have ht:decide (0≤k)=false:=by simp; omega
  clear h hk
  go_enter Tryz.func98,Tryz.ntmps98
  go_wp2
  go_ret
  exact ⟨rfl,rfl⟩
 ·have h1:0≤k:=by omega
  have ht:decide (k < (D.bk.length:Int))=false:=by simp; omega
  clear h hk h0
  go_enter Tryz.func98,Tryz.ntmps98
  go_wp2
  go_ret
  exact ⟨rfl,rfl⟩
theorem size_any (h:Dev w b D F):Calls Tryz.prog 45 #[ptr b] w fun e w'=>e = .returned (.int .i64 (D.bk.length:Nat))∧w=w':=by
 obtain ⟨sb,mb,sv,lv,Dm,h⟩:=h
 have c0:=h.cells.1
 clear h
 go_enter Tryz.func45,Tryz.ntmps45
 go_wp2
 go_ret
 exact ⟨rfl,rfl⟩
def Headed (w:World) (b:Nat) (D:Dv) (F:Nat→Prop) (w':World):Prop :=
 ∀ sb mb sv lv Dm D0,D0.bk=D.bk→DevAt w b sb mb sv lv Dm D0 F→DevAt w' b sb mb sv lv Dm D F∧Only (· = b) w w'
theorem Headed.dev {D0:Dv} {w':World} (h:Headed w b D F w') (hd:Dev w b D0 F) (he:D0.bk=D.bk):Dev w' b D F∧Only (· = b) w w':=by
 obtain ⟨sb,mb,sv,lv,Dm,hd⟩:=hd
 obtain ⟨h1,h2⟩:=h _ _ _ _ _ _ he hd
 exact ⟨⟨_,_,_,_,_,h1⟩,h2⟩
theorem headed_cell2 (h:Dev w b D F) (on:Bool):Headed w b ⟨D.bk,on,D.left⟩ F (w.setCell ⟨b,2,none⟩ (.bool on)):=by
 obtain ⟨sb1,mb1,sv1,lv1,Dm1,h⟩:=h
 intro sb mb sv lv Dm D0 he hd
 have ho:Only (· = b) w (w.setCell ⟨b,2,none⟩ (.bool on)):=(Only.refl (· = b) w).setCell (p:=⟨b,2,none⟩) (.inl rfl) _
 have e:=(hd.head.inj h.head).1
 simp only [List.cons.injEq,Value.int.injEq,and_true,true_and] at e
 refine ⟨?_,ho⟩
 have:=hd.rehead (on:=on) (left:=D0.left) (hd.head.set 2 (.bool on)) ho hd.low hd.high
 rw [he,e.2.2.2] at this
 exact this
theorem headed_cell3 (h:Dev w b D F) (left:Int) (h1 : -1≤left) (h2:left≤9223372036854775807):Headed w b ⟨D.bk,D.on,left⟩ F (w.setCell ⟨b,3,none⟩ (.int .i64 left)):=by
 obtain ⟨sb1,mb1,sv1,lv1,Dm1,h⟩:=h
 intro sb mb sv lv Dm D0 he hd
 have ho:Only (· = b) w (w.setCell ⟨b,3,none⟩ (.int .i64 left)):=(Only.refl (· = b) w).setCell (p:=⟨b,3,none⟩) (.inl rfl) _
 have e:=(hd.head.inj h.head).1
 simp only [List.cons.injEq,Value.bool.injEq,and_true] at e
 refine ⟨?_,ho⟩
 have:=hd.rehead (on:=D0.on) (left:=left) (hd.head.set 3 (.int .i64 left)) ho h1 h2
 rw [he,e.2.2.1] at this
 exact this
theorem headed_refl (h:Dev w b D F):Headed w b D F w:=by
 obtain ⟨sb1,mb1,sv1,lv1,Dm1,h⟩:=h
 intro sb mb sv lv Dm D0 he hd
 have e:=(hd.head.inj h.head).1
 simp only [List.cons.injEq,Value.bool.injEq,Value.int.injEq,and_true,true_and] at e
 obtain ⟨bk0,on0,left0⟩:=D0
 obtain ⟨bk,on,left⟩:=D
 simp only at he e
 obtain ⟨_,_,rfl,rfl⟩:=e
 subst he
 exact ⟨hd,Only.refl _ _⟩
theorem spend_dies (h:Dev w b D F) (hl:D.left=0):Calls Tryz.prog 99 #[ptr b] w fun e w'=>e = .returned (err 8)∧Headed w b ⟨D.bk,false,D.left⟩ F w':=by
 have hh:=headed_cell2 h false
 obtain ⟨sb,mb,sv,lv,Dm,h⟩:=h
 obtain ⟨_,_,c2,c3,_,f2,_⟩:=h.cells
 rw [hl] at c3
 have HH:=Lib.hid hh
 clear h hl hh
 go_enter Tryz.func99,Tryz.ntmps99
 go_wp2
 go_ret
 exact ⟨rfl,HH.out⟩
theorem spent_pos {n:Int} (h:0 < n):spent n=n-1:=if_pos h
theorem spent_neg {n:Int} (h:n < 0):spent n=n:=if_neg (by omega)
theorem spend_goes (h:Dev w b D F) (hl:D.left≠0):Calls Tryz.prog 99 #[ptr b] w fun e w'=>e = .returned (err 0)∧Headed w b ⟨D.bk,D.on,spent D.left⟩ F w':=by
 have h0:=h
 obtain ⟨sb,mb,sv,lv,Dm,h⟩:=h
 obtain ⟨_,_,c2,c3,_,f2,f3⟩:=h.cells
 have hlow:=h.low
 have hhigh:=h.high
 rcases Int.lt_or_gt_of_ne hl with hlt | hgt
 ·have he:(D.left == 0)=false:=by simpa using hl
  have hs:Headed w b ⟨D.bk,D.on,D.left⟩ F w:=headed_refl h0
  rw [spent_neg hlt]
  have HH:=Lib.hid hs
  have hd:decide (0 < D.left)=false:=by simp; omega
  clear h h0 hl hs
  generalize D.left=left at *
  go_enter Tryz.func99,Tryz.ntmps99
  go_wp2
  go_ret
  exact ⟨rfl,HH.out⟩
 ·have he:(D.left == 0)=false:=by simpa using hl
  have hs:=headed_cell3 h0 (D.left-1) (by omega) (by omega)
  rw [spent_pos hgt]
  have HH:=Lib.hid hs
  clear h h0 hl hs
  generalize D.left=left at *
  go_enter Tryz.func99,Tryz.ntmps99
  go_wp2
  go_ret
  exact ⟨rfl,HH.out⟩
theorem off_off (h:Dev w b D F) (ho:D.on=false):Calls Tryz.prog 17 #[ptr b] w fun e w'=>e = .returned (err 8)∧w=w':=by
 go_enter Tryz.func17,Tryz.ntmps17
 go_wp2_with fail
 refine (ready_off h ho).mono ?_
 rintro e w1 ⟨rfl,rfl⟩
 go_wp2
 go_ret
 exact ⟨rfl,rfl⟩
theorem off_on (h:Dev w b D F) (ho:D.on=true):Calls Tryz.prog 17 #[ptr b] w fun e w'=>e = .returned (err 0)∧Dev w' b ⟨D.bk,false,D.left⟩ F∧Only (· = b) w w':=by
 have hh:=(headed_cell2 h false).dev h rfl
 have c:=h
 obtain ⟨sb,mb,sv,lv,Dm,c⟩:=c
 obtain ⟨_,_,c2,_,_,f2,_⟩:=c.cells
 have HH:=Lib.hid hh
 have HO:=Lib.hid ho
 clear c hh ho
 go_enter Tryz.func17,Tryz.ntmps17
 go_wp2_with fail
 refine (ready_on h HO.out).mono ?_
 rintro e w1 ⟨rfl,rfl⟩
 go_wp2
 go_ret
 exact ⟨rfl,HH.out⟩
end
end Go.Proofs.YtgkofgifoiinkaaGreat
namespace Go.Proofs.YtgkofgifoiinkaaGreat
open Go.RowKit Go.Maps
def Reads (w:World) (l:Bytes) (e:Ending) (w':World):Prop :=
 ∃ g,e = .returned (.tuple #[.slice (some ⟨g,0,none⟩) 512 512,err 0])∧Cel w' g (bvs l) 5∧w.heap.size≤g∧Below w.heap.size w w'
section
variable {w:World} {b:Nat} {D:Dv} {F:Nat→Prop}
set_option maxRecDepth 100000 in
theorem read_ok (h:Dev w b D F) (ho:D.on=true) {k:Nat} {x:Bk} (hx:D.bk[k]? = some x):Calls Tryz.prog 96 #[ptr b, .int .i64 (k:Int)] w (Reads w x.stands):=by
 have h0:=h
 have hk:=(List.getElem?_eq_some_iff.1 hx).1
 obtain ⟨sb,mb,sv,lv,Dm,h⟩:=h
 have hrun:=h.look hx
 obtain ⟨c0,c1,_⟩:=h.cells
 have hr:=h.loose k x hx
 have hfew:=h.few
 cases hl:x.loose with
 | nil =>
  have hnil:=h.lv_nil hx hl
  rw [hnil] at hrun
  obtain ⟨u,hu,hs⟩:=h.sure k x hx
  have hcs:w.cell? ⟨sb,k,none⟩=some u:=by rw [h.rows.cell,hu]
  have hst:=Bk.stands_nil hl
  have hbs:∃ a n c l,u = .slice a n c∧Bs w (.slice a n c) l∧l.length≤512∧padded l=x.stands:=by
   rcases hs with ⟨rfl,e⟩ | hb
   ·exact ⟨none,0,0,[],rfl,Bs.nil w,by simp,by rw [padded_nil,hst,e]⟩
   ·obtain ⟨g,rfl,hb,hlen⟩:=hb.open
    exact ⟨_,_,_,_,rfl,hb,by omega,by rw [padded_full hlen,hst]⟩
  obtain ⟨a,n,c,l,rfl,hb,hll,hp⟩:=hbs
  have H:=Lib.hid (anZ ho hp)
  have hki:(k:Int) < (D.bk.length:Int):=by omega
  clear ho hp hst hl hs hu hnil h hx hr
  go_enter Tryz.func96,Tryz.ntmps96
  go_wp2_with fail
  refine (ready_on h0 H.out.1).mono ?_
  rintro e w1 ⟨rfl,rfl⟩
  go_wp2_with fail
  refine (has_yes h0 k hk).mono ?_
  rintro e w1 ⟨rfl,rfl⟩
  go_wp2_with fail
  refine (newBlock_any _ hb hll).mono ?_
  rintro e w2 ⟨g,rfl,hg⟩
  go_wp2
  go_ret2
  exact ⟨g,rfl,by rw [← H.out.2]; exact hg⟩
 | cons y r =>
  have hpos:x.loose.length=r.length+1:=by rw [hl]; rfl
  have hst:=Bk.stands_some hpos
  have hmax:=hr.len
  rw [hpos] at hmax
  obtain ⟨g,cap,hv,hcells⟩:=hr.some (by omega)
  obtain ⟨u,hu,hb⟩:=hcells _ _ hst
  obtain ⟨g2,rfl,hb,hlen⟩:=hb.open
  rw [hv,hpos] at hrun
  have H:=Lib.hid (anZ ho (padded_full hlen))
  have hll:x.stands.length≤512:=by omega
  clear ho hst hl hv hcells hpos h hx hr hlen
  generalize x.stands=l at *
  generalize r.length=m at *
  go_enter Tryz.func96,Tryz.ntmps96
  go_wp2_with fail
  refine (ready_on h0 H.out.1).mono ?_
  rintro e w1 ⟨rfl,rfl⟩
  go_wp2_with fail
  refine (has_yes h0 k hk).mono ?_
  rintro e w1 ⟨rfl,rfl⟩
  go_wp2_with fail
  refine (newBlock_any _ hb hll).mono ?_
  rintro e w2 ⟨g,rfl,hg⟩
  go_wp2
  go_ret2
  exact ⟨g,rfl,by rw [← H.out.2]; exact hg⟩
end
end Go.Proofs.YtgkofgifoiinkaaGreat
namespace Go.Proofs.YtgkofgifoiinkaaGreat
open Go.RowKit Go.Maps
theorem nodup_lt:∀ (n:Nat) (l:List Nat),l.Nodup→(∀ x∈l,x < n)→l.length≤n
 | 0,l,_,h=>by
  cases l with
  | nil=>exact Nat.le_refl _
  | cons x r=>exact absurd (h x (by simp)) (Nat.not_lt_zero _)
 | n+1,l,hd,h=>by
  have h1:=nodup_lt n (l.erase n) (hd.erase n) (fun x hx=>by
   have h2:=(hd.mem_erase_iff).1 hx
   have:=h x h2.2
   have:=h2.1
   omega)
  have h3:l.length≤(l.erase n).length+1:=by
   rw [List.length_erase]
   split <;> omega
  omega
theorem size_le {D:DataW Value} {n:Nat} (ht:Tidy D) (h:∀ kl,Maps.has D kl=true→∃ k,k < n∧kl=keyL k) (hw:∀ es,D = .map es→∀ p∈es,Maps.has D p.1=true):Maps.size D≤n:=by
 obtain ⟨es,rfl,hp⟩:=ht
 let f:Lit × DataW Value→Nat:=fun p=>match p.1 with | .int _ a=>a.toNat | _=>0
 have hk:∀ p∈es,∃ k,k < n∧p.1=keyL k:=fun p hp=>h p.1 (hw es rfl p hp)
 have hf:∀ p∈es,p.1=keyL (f p)∧f p < n:=fun p hp=>by
  obtain ⟨k,hk,e⟩:=hk p hp
  have:f p=k:=by simp only [f,e,keyL]; simp
  rw [this]
  exact ⟨e,hk⟩
 have h1:(es.map f).Nodup:=by
  rw [List.Nodup,List.pairwise_map]
  refine List.Pairwise.imp_of_mem ?_ hp
  intro a b ha hb hne he
  exact hne (by rw [(hf a ha).1,(hf b hb).1,he])
 have:=nodup_lt n (es.map f) h1 (fun x hx=>by
  obtain ⟨p,hp,rfl⟩:=List.mem_map.1 hx
  exact (hf p hp).2)
 rw [List.length_map] at this
 exact this
theorem isKey_lit (k:Nat) (hk:k < 9223372036854775808):WideAt.IsKeyLit (keyL k):=(int_keyed Tryz.underlying3).key (int_look k hk)
theorem ownsMap_has {w:World} {mb n:Nat} {Dm:DataW Value} (h:w.ownsMap Tryz.prog 3 rawR mb n Dm):∀ es,Dm = .map es→∀ p∈es,Maps.has Dm p.1=true:=by
 obtain ⟨es0,rfl,_,hk⟩:=h.entries (int_keyed Tryz.underlying3)
 intro es he p hp
 obtain rfl:es0=es:=by simpa using he
 rw [has_eq,List.any_eq_true]
 exact ⟨p,hp,WideAt.sameKey_self (hk p hp)⟩
theorem ownsMap_tight {w:World} {mb n m:Nat} {Dm:DataW Value} (h:w.ownsMap Tryz.prog 3 rawR mb n Dm) (hm:Maps.size Dm≤m):w.ownsMap Tryz.prog 3 rawR mb m Dm:=by
 obtain ⟨es,clock,hb,F,hs,rfl⟩:=h
 refine ⟨es,clock,hb,F,?_,rfl⟩
 rw [size_eq,length_sorted] at hm
 simpa using hm
theorem wrote_get {l:List Bk} {k j:Nat} {c:Bytes}:(wrote l k c)[j]? = if j=k then (l[j]?).map (fun x=>⟨x.sure,x.loose++[c]⟩) else l[j]?:=by
 unfold wrote
 rw [List.getElem?_modify]
 by_cases h:k=j
 ·subst h; simp
 ·have h':¬ j=k:=fun e=>h e.symm
  simp only [h,h',if_false]
  cases l[j]? <;> rfl
theorem wrote_length (l:List Bk) (k:Nat) (c:Bytes):(wrote l k c).length=l.length:=by simp [wrote]
theorem row_info:(Tryz.prog.info? 24).map (fun i=>(i.zero,i.size,i.bytes))=some (some nilSl,1,24):=by kernel_rfl
theorem DevAt.puts {w w2:World} {b sb mb:Nat} {sv:List Value} {lv:Nat→Value} {Dm:DataW Value} {D:Dv} {F:Nat→Prop} (h:DevAt w b sb mb sv lv Dm D F) {k:Nat} {x:Bk} (hx:D.bk[k]? = some x)
  (hs:x.loose.length < 4294967296) {g:Nat} {c:Bytes} (hc:Cel w2 g (bvs c) 5) (hl:c.length=512) (hg:w.heap.size≤g) (hb:Below w.heap.size w w2) :
  ∃ v' w4 w5,(Builtin.append_ #[69,69] 69 #[lv k, .slice (some ⟨w2.heap.size,0,none⟩) 1 1]).run Tryz.prog (w2.alloc (.cells #[.slice (some ⟨g,0,none⟩) 512 512] 24)) = .ok v' w4 ∧
   (Instr.mapUpdate 70 (.map (some mb)) (.int .i64 (k:Int)) v').run Tryz.prog w4 = .ok () w5 ∧
   Dev w5 b ⟨wrote D.bk k c,D.on,D.left⟩ (Grow F w w5)∧Only F w w5∧w4.heap[b]? = w.heap[b]? ∧ w4.heap[mb]? = w.heap[mb]?:=by
 have hk:=(List.getElem?_eq_some_iff.1 hx).1
 have hfew:=h.few
 obtain ⟨i0,hi,hz0,hz1,hz2⟩:=info_parts row_info
 obtain ⟨vals,ho,hvals,hF⟩:=h.loose k x hx
 have o3:Only F w (w2.alloc (.cells #[.slice (some ⟨g,0,none⟩) 512 512] 24)):=(Only.of_below hb F).alloc _
 have g2:g < w2.heap.size:=hc.lt
 have c3:Cel (w2.alloc (.cells #[.slice (some ⟨g,0,none⟩) 512 512] 24)) g (bvs c) 5:=hc.alloc _
 have z3:(w2.alloc (.cells #[.slice (some ⟨g,0,none⟩) 512 512] 24)).heap.size=w2.heap.size+1:=by simp
 have keep3:∀ q,q < w.heap.size→(w2.alloc (.cells #[.slice (some ⟨g,0,none⟩) 512 512] 24)).heap[q]? = w.heap[q]?:=fun q hq =>
  (Below.heap_alloc _ _ _ (Nat.lt_of_lt_of_le hq hb.size)).trans (hb.block q hq)
 have hnew:=cell_one_new w2 (.slice (some ⟨g,0,none⟩) 512 512) 24
 generalize w2.alloc (.cells #[.slice (some ⟨g,0,none⟩) 512 512] 24)=w3 at *
 have ho3:w3.ownsRow 0 24 1 (lv k) x.loose.length vals:=by
  refine ⟨ho.1,ho.2.imp id fun ⟨q,cap,cur,e1,e2,e3,r⟩=>⟨q,cap,cur,e1,e2,?_,r⟩⟩
  rw [keep3 q ((Array.getElem?_eq_some_iff.1 e3).1)]
  exact e3
 obtain ⟨v',w4,hrun,ho4,hg4,_,hloc⟩:=run_append_own_at (P:=Tryz.prog) (w:=w3) 0 69 69 24 i0 nilSl 1 24 Tryz.underlying69 hi hz0 hz1 hz2 rfl (by decide) (lv k) x.loose.length vals ho3
  ⟨w2.heap.size,0,none⟩ 1 1 [.slice (some ⟨g,0,none⟩) 512 512] rfl hnew (by simp [Value.oneCell']) (by unfold maxLen; omega) (by omega) (Nat.zero_le _)
 have lvF:∀ q,(lv k).ownBlock=some q→F q∧q < w.heap.size:=fun q e=>⟨hF q e,h.fl q (hF q e)⟩
 have lvT:∀ q,(lv k).ownBlock=some q→∃ cs,Cel w q cs 24:=(h.loose k x hx).typed
 have keep4:∀ q,q < w.heap.size→(lv k).ownBlock≠some q→w4.heap[q]? = w.heap[q]?:=fun q hq hne =>
  (hg4.block q (by have:=hb.size; omega) (fun e=>hne e.symm)).trans (keep3 q hq)
 have o4:Only F w w4:=o3.grown hg4 (fun q e=>.inl (lvF q e).1)
 obtain ⟨es,clock,hmap,_⟩:=h.map
 have mb_ne:(lv k).ownBlock≠some mb:=fun e=>by
  obtain ⟨cs,hc⟩:=lvT mb e
  rw [show w.heap[mb]? = _ from hc] at hmap
  cases hmap
 have map4:w4.ownsMap Tryz.prog 3 rawR mb 4096 Dm:=ownsMap_kept' h.map (keep4 mb (h.fl _ h.fm) mb_ne)
 obtain ⟨w5,hrun5,map5,hg5⟩:=map4.update (t:=70) (e:=69) (int_keyed Tryz.underlying3) Tryz.underlying70 (by unfold maxLen; omega) (int_look k (by omega)) (val:=v') (d:=.held v') (ps:=[]) rfl
 have o5:Only F w w5:=o4.grown hg5 (fun q e=>by cases e; exact .inl h.fm)
 refine ⟨v',w4,w5,hrun,hrun5,⟨sb,mb,sv,fun j=>if j=k then v' else lv j,Dm.put (keyL k) (.held v'),?_⟩,o5,keep4 b (h.fl _ h.fb) (fun e=>by
  obtain ⟨cs',hc'⟩:=lvT b e
  have:=(h.head.inj hc').2
  cases this),keep4 mb (h.fl _ h.fm) mb_ne⟩
 have keep5:∀ q,q < w.heap.size→(lv k).ownBlock≠some q→q≠mb→w5.heap[q]? = w.heap[q]?:=fun q hq h1 h2 =>
  (hg5.block q (by have:=hb.size; have:=hg4.size; omega) (fun e=>h2 (by cases e; rfl))).trans (keep4 q hq h1)
 have byte5:∀ q,F q→(∃ cs,Cel w q cs 5)→w5.heap[q]? = w.heap[q]?:=fun q hq ⟨cs,hcs⟩=>keep5 q hcs.lt (fun e=>by
   obtain ⟨cs',hc'⟩:=lvT q e
   have:=(hcs.inj hc').2
   cases this) (fun e=>by
   subst e
   rw [show w.heap[q]? = _ from hcs] at hmap
   cases hmap)
 have grow:∀ q,F q→Grow F w w5 q:=fun q hq=>.inl hq
 have v'loc:∀ q,v'.ownBlock=some q→(lv k).ownBlock=some q∨(w.heap.size≤q∧q < w4.heap.size):=fun q e=>by
  rcases hloc with h1 | h1
  ·exact .inl (h1 ▸ e)
  ·rw [h1] at e
   cases e
   exact .inr ⟨by have:=hb.size; omega,(World.ownsRow.lt ho4 _ h1).2⟩
 have z45:w4.heap.size≤w5.heap.size:=hg5.size
 have z34:w3.heap.size≤w4.heap.size:=hg4.size
 have zb:=hb.size
 have keep_g:w5.heap[g]? = w3.heap[g]?:=by
  refine (hg5.block g (by omega) (fun e=>?_)).trans (hg4.block g (by omega) (fun e=>?_))
  ·cases e
   have:=h.fl _ h.fm
   omega
  ·have:=(lvF g e.symm).2
   omega
 have key_ne:∀ j,j≠k→keyL j≠keyL k:=fun j hj e=>hj (by simp [keyL] at e; omega)
 have hisK:=isKey_lit k (by omega)
 have only5:∀ kl,Maps.has (Dm.put (keyL k) (.held v')) kl=true→∃ j,j < D.bk.length∧kl=keyL j:=fun kl hkl=>by
  by_cases e:kl=keyL k
  ·exact ⟨k,hk,e⟩
  ·rw [has_put_other e] at hkl
   exact h.only kl hkl
 exact {
  head:=by
   show Cel w5 b [.slice (some ⟨sb,0,none⟩) (wrote D.bk k c).length (wrote D.bk k c).length,_,_,_] _
   rw [wrote_length]
   exact h.head.kept (keep5 b (h.fl _ h.fb) (fun e=>by
    obtain ⟨cs',hc'⟩:=lvT b e
    have:=(h.head.inj hc').2
    cases this) h.b_ne.2.1)
  rows:=h.rows.kept (keep5 sb (h.fl _ h.fs) (h.off k hk) h.b_ne.2.2)
  svl:=by rw [h.svl,wrote_length]
  sure:=fun j y hy=>by
   rw [wrote_get] at hy
   have:∃ y0,D.bk[j]? = some y0∧y.sure=y0.sure:=by
    split at hy
    ·obtain ⟨y0,h0,rfl⟩:=Option.map_eq_some_iff.1 hy
     exact ⟨y0,h0,rfl⟩
    ·exact ⟨y,hy,rfl⟩
   obtain ⟨y0,h0,e0⟩:=this
   obtain ⟨u,hu,hx'⟩:=h.sure j y0 h0
   rw [e0]
   exact ⟨u,hu,hx'.imp id fun hb=>hb.kept byte5 grow⟩
  map:=ownsMap_tight map5 (Nat.le_trans (size_le (map5.tidy (int_keyed Tryz.underlying3)) only5 (ownsMap_has map5)) hfew)
  keys:=fun j y hy=>by
   rw [wrote_get] at hy
   by_cases hj:j=k
   ·subst hj
    rw [if_pos rfl,hx] at hy
    simp only [Option.map_some,Option.some.injEq] at hy
    subst hy
    rw [has_put_same map4.isMap hisK,atKey_put_same map4.isMap hisK,if_pos rfl]
    exact ⟨by simp,rfl⟩
   ·rw [if_neg hj] at hy
    rw [has_put_other (key_ne j hj),atKey_put_other (key_ne j hj),if_neg hj]
    exact h.keys j y hy
  only:=fun kl hkl=>by
   rw [wrote_length]
   exact only5 kl hkl
  loose:=fun j y hy=>by
   rw [wrote_get] at hy
   by_cases hj:j=k
   ·subst hj
    rw [if_pos rfl,hx] at hy
    simp only [Option.map_some,Option.some.injEq] at hy
    subst hy
    rw [if_pos rfl]
    refine ⟨vals++[.slice (some ⟨g,0,none⟩) 512 512],?_,fun i l hi=>?_,fun q e=>?_⟩
    ·rw [List.length_append]
     refine World.ownsRow.kept ho4 hg5 ?_
     rcases hq:v'.ownBlock with _ | q
     ·exact .inl rfl
     ·refine .inr (fun e=>?_)
      cases e
      rcases v'loc mb hq with h1 | h1
      ·exact mb_ne h1
      ·have:=h.fl _ h.fm
       omega
    ·have hlen:vals.length=x.loose.length:=by have:=ho.1; omega
     by_cases hi':i < x.loose.length
     ·rw [List.getElem?_append_left hi'] at hi
      obtain ⟨u,hu,hb'⟩:=hvals i l hi
      exact ⟨u,by rw [List.getElem?_append_left (by omega)]; exact hu,hb'.kept byte5 grow⟩
     ·rw [List.getElem?_append_right (by omega)] at hi
      have:i=x.loose.length:=by
       have:=(List.getElem?_eq_some_iff.1 hi).1
       simp at this
       omega
      subst this
      simp only [Nat.sub_self,List.getElem?_cons_zero,Option.some.injEq] at hi
      subst hi
      refine ⟨.slice (some ⟨g,0,none⟩) 512 512,by rw [List.getElem?_append_right (by omega),hlen]; simp,g,rfl,c3.kept keep_g,hl, .inr ⟨hg,by omega⟩⟩
    ·rcases v'loc q e with h1 | h1
     ·exact grow q (lvF q h1).1
     ·exact .inr ⟨h1.1,by omega⟩
   ·rw [if_neg hj] at hy
    rw [if_neg hj]
    have hr:=h.loose j y hy
    refine hr.kept byte5 (fun q e=>?_) grow
    obtain ⟨cs,hcs⟩:=hr.typed q e
    refine keep5 q hcs.lt (fun e'=>?_) (fun e'=>?_)
    ·rcases h.apart j k (List.getElem?_eq_some_iff.1 hy).1 hk hj with h1 | h1
     ·rw [h1] at e; cases e
     ·exact h1 (e.trans e'.symm)
    ·subst e'
     rw [show w.heap[q]? = _ from hcs] at hmap
     cases hmap
  apart:=fun i j hi hj hne=>by
   rw [wrote_length] at hi hj
   have old:∀ m,m < D.bk.length→m≠k→(lv m).ownBlock=none∨(lv m).ownBlock≠v'.ownBlock:=fun m hm hmk=>by
    rcases h.apart m k hm hk hmk with h1 | h1
    ·exact .inl h1
    ·rcases hq:(lv m).ownBlock with _ | q
     ·exact .inl rfl
     ·refine .inr (fun e=>?_)
      rcases v'loc q e.symm with h2 | h2
      ·exact h1 (hq.trans h2.symm)
      ·obtain ⟨y,hy⟩:∃ y,D.bk[m]? = some y:=⟨_,List.getElem?_eq_getElem hm⟩
       obtain ⟨cs,hcs⟩:=(h.loose m y hy).typed q hq
       have:=hcs.lt
       omega
   by_cases hik:i=k
   ·subst hik
    have hjk:j≠i:=fun e=>hne e.symm
    rw [if_pos rfl,if_neg hjk]
    rcases old j hj hjk with h1 | h1
    ·rcases hq:v'.ownBlock with _ | q
     ·exact .inl rfl
     ·exact .inr (by rw [h1]; exact fun e=>by cases e)
    ·exact .inr (fun e=>h1 e.symm)
   ·rw [if_neg hik]
    by_cases hjk:j=k
    ·subst hjk
     rw [if_pos rfl]
     exact old i hi hik
    ·rw [if_neg hjk]
     exact h.apart i j hi hj hne
  off:=fun j hj e=>by
   rw [wrote_length] at hj
   by_cases hjk:j=k
   ·subst hjk
    rw [if_pos rfl] at e
    rcases v'loc sb e with h1 | h1
    ·exact h.off j hj h1
    ·have:=h.fl _ h.fs
     omega
   ·rw [if_neg hjk] at e
    exact h.off j hj e
  fb:=grow _ h.fb
  fs:=grow _ h.fs
  fm:=grow _ h.fm
  fl:=fun q hq=>by
   rcases hq with h1 | h1
   ·have:=h.fl q h1
    have:=o5.size
    omega
   ·exact h1.2
  pos:=by
   show 0 < (wrote D.bk k c).length
   rw [wrote_length]; exact h.pos
  few:=by
   show (wrote D.bk k c).length≤4096
   rw [wrote_length]; exact h.few
  low:=h.low
  high:=h.high }
end Go.Proofs.YtgkofgifoiinkaaGreat
namespace Go.Proofs.YtgkofgifoiinkaaGreat
open Go.RowKit Go.Maps Go.Sort Go.Shelf
theorem sortsA (m:Nat):AnyZI.SortsIn Tryz.prog Tryz.sortedA_ren Fence.wide m :=
 ⟨fun blk off cap ss W hH hblk hsz=>callsIn_wide.2 (AnyM.slices_Sort_int Tryz.sortA blk off cap ss W hH hblk hsz),
 fun p cap W=>callsIn_wide.2 (AnyM.slices_Sort_int_none Tryz.sortA p cap W)⟩
theorem keys_call (n:Nat) (mb:Option Nat) (W:World):CallsIn Fence.wide n Tryz.prog 113 #[.map mb] W fun e w'=>e = .returned (.func (.func 142) #[] #[.pointer (some ⟨W.heap.size,0,none⟩)])∧w'=W.alloc (.cells #[.map mb] 70) :=
 AnyZI.keys_in Tryz.keysA Fence.wide n trivial rfl mb W
set_option maxHeartbeats 1000000 in
theorem sorted_call (n:Nat) (hn:4≤n) (mb nn:Nat) (D0:DataW Value) (w:World) (hown:w.ownsMap Tryz.prog 3 rawR mb nn D0) (hmax:Maps.size D0≤maxLen) (hbytes:Maps.size D0*8≤140737488355328) :
  CallsIn Fence.wide n Tryz.prog 112 #[.func (.func 142) #[] #[.pointer (some ⟨w.heap.size,0,none⟩)]] (w.alloc (.cells #[.map (some mb)] 70)) fun e w'=>∃ (v:Value) (ss:List Int),e = .returned v∧ss.Perm (intKeys D0) ∧
   w'.ownsRow (w.heap.size+1) 3 1 v ss.length ((ss.mergeSort (fun x y=>decide (x≤y))).map encZ)∧(v = .slice none 0 0↔ss=[])∧Below (w.heap.size+1) (w.alloc (.cells #[.map (some mb)] 70)) w':=by
 have hbl:=hown.lt
 have hseq:SeqGives Fence.wide (n-1-1-1) Tryz.prog 142 #[.pointer (some ⟨w.heap.size,0,none⟩)] encZ (fun ss=>ss.Perm (intKeys D0)) (Maps.size D0) (w.alloc (.cells #[.map (some mb)] 70)) :=
  AnyZI.keys_gives (ρ:=Tryz.keysA_ren) { Tryz.keysA with } Fence.wide _ trivial rfl (by omega) w.heap.size mb nn D0 _ (by simp) (by simp) (by
   obtain ⟨es,clock,hb,Ft,hs,hD⟩:=hown
   exact ⟨es,clock,(Below.heap_alloc _ _ mb hbl).trans hb,Ft,hs,hD⟩)
 have cS:=AnyZI.sorted_in Tryz.sortedA Fence.wide n trivial trivial trivial trivial rfl hn (sortsA _) (enters_of Tryz.func118 (by kernel_rfl) rfl) 142 #[.pointer (some ⟨w.heap.size,0,none⟩)] trivial (enters_of Tryz.func142 (by kernel_rfl) rfl) _ _ hmax hbytes _ hseq
 have z:(w.alloc (.cells #[.map (some mb)] 70)).heap.size=w.heap.size+1:=by simp
 rw [z] at cS
 exact cS
theorem looseAt_get {l:List Bk} {k:Nat} {x:Bk} (h:l[k]? = some x):looseAt l k=x.loose:=by simp [looseAt,h]
theorem mem_loosen {l:List Bk} {k:Nat}:k∈loosen l↔k < l.length∧looseAt l k≠[]:=by
 unfold loosen
 rw [List.mem_filter,List.mem_range]
 simp
theorem loosen_nodup (l:List Bk):(loosen l).Nodup:=(List.nodup_range (n:=l.length)).filter _
theorem loosen_sorted (l:List Bk):((loosen l).map fun k:Nat=>(k:Int)).Pairwise (fun x y=>decide (x≤y)=true):=by
 rw [List.pairwise_map]
 refine (List.Pairwise.filter _ (List.pairwise_le_range (n:=l.length))).imp ?_
 intro a b h
 simpa using h
theorem has_iff {w:World} {b sb mb:Nat} {sv:List Value} {lv:Nat→Value} {Dm:DataW Value} {D:Dv} {F:Nat→Prop} (h:DevAt w b sb mb sv lv Dm D F) (x:Int) :
  Maps.has Dm (.int .i64 x)=true↔∃ k,k∈loosen D.bk∧x=(k:Int):=by
 constructor
 ·intro hx
  obtain ⟨k,hk,e⟩:=h.only _ hx
  have e':x=(k:Int):=by simpa [keyL] using e
  obtain ⟨y,hy⟩:∃ y,D.bk[k]? = some y:=⟨_,List.getElem?_eq_getElem hk⟩
  refine ⟨k,mem_loosen.2 ⟨hk,?_⟩,e'⟩
  have:=(h.keys k y hy).1
  rw [show keyL k = .int .i64 x from by rw [e'],hx] at this
  rw [looseAt_get hy]
  intro e0
  rw [e0] at this
  simp at this
 ·rintro ⟨k,hk,rfl⟩
  obtain ⟨hk,hne⟩:=mem_loosen.1 hk
  obtain ⟨y,hy⟩:∃ y,D.bk[k]? = some y:=⟨_,List.getElem?_eq_getElem hk⟩
  rw [looseAt_get hy] at hne
  have:=(h.keys k y hy).1
  rw [this]
  simpa using hne
theorem sorted_is {w:World} {b sb mb:Nat} {sv:List Value} {lv:Nat→Value} {Dm:DataW Value} {D:Dv} {F:Nat→Prop} (h:DevAt w b sb mb sv lv Dm D F) {ss:List Int} (hp:ss.Perm (intKeys Dm)) :
  ss.mergeSort (fun x y=>decide (x≤y))=(loosen D.bk).map fun k:Nat=>(k:Int):=by
 obtain ⟨es,rfl,hpw,hkl⟩:=h.map.entries (int_keyed Tryz.underlying3)
 have hk:∀ p∈es,∃ x,p.1 = .int .i64 x:=fun p hp=>by
  obtain ⟨k,_,e⟩:=h.only p.1 (ownsMap_has h.map es rfl p hp)
  exact ⟨_,e⟩
 have hnd:((loosen D.bk).map fun k:Nat=>(k:Int)).Nodup:=by
  rw [List.Nodup,List.pairwise_map]
  exact (loosen_nodup D.bk).imp fun hne e=>hne (by omega)
 have h1:=perm_intKeys hpw hk hnd (fun x=>by
  rw [has_iff h x,List.mem_map]
  exact ⟨fun ⟨k,hk,e⟩=>⟨k,hk,e.symm⟩,fun ⟨k,hk,e⟩=>⟨k,hk,e.symm⟩⟩)
 rw [mergeSort_of_perm_i (hp.trans h1.symm)]
 exact List.mergeSort_of_pairwise (loosen_sorted D.bk)
theorem keys_few {w:World} {b sb mb:Nat} {sv:List Value} {lv:Nat→Value} {Dm:DataW Value} {D:Dv} {F:Nat→Prop} (h:DevAt w b sb mb sv lv Dm D F):Maps.size Dm≤4096 :=
 Nat.le_trans (size_le (h.map.tidy (int_keyed Tryz.underlying3)) h.only (ownsMap_has h.map)) h.few
end Go.Proofs.YtgkofgifoiinkaaGreat
