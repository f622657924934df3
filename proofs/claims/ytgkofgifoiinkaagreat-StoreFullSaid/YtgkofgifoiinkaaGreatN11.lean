/- Contracts of package pages: each call answers as the chapter says, and writes nothing but the pages' states; condition: pages lie in memory, or the pointer is nil. -/
import Derived.Test.YtgkofgifoiinkaaGreatN10
import Derived.Test.YtgkofgifoiinkaaGreatN08
import Derived.Carry
import Derived.Test.YtgkofgifoiinkaaGreatN09
import Derived.Test.YtgkofgifoiinkaaGreatN01
namespace Go.Proofs.YtgkofgifoiinkaaGreat
open Go.RowKit Go.Maps
def Iv (w:World) (v:Value) (l:List Int):Prop :=
 ∃ a cap,v = .slice a l.length cap∧l.length≤9223372036854775807∧(a=none→l=[])∧(∀ ad,a=some ad→∀ (i:Nat) (u:Int),l[i]? = some u→w.cell? (ad.add i)=some (.int .i64 u))∧∀ u∈l, -9223372036854775808≤u∧u≤9223372036854775807
theorem Iv.nil (w:World):Iv w nilSl []:=⟨none,0,rfl,by simp,fun _=>rfl,(fun _ h=>by cases h),(fun u h=>by cases h)⟩
theorem Iv.shape {w:World} {v:Value} {l:List Int} (h:Iv w v l):∃ a cap,v = .slice a l.length cap:=let ⟨a,cap,e,_⟩:=h; ⟨a,cap,e⟩
theorem Iv.kept {w w':World} {v:Value} {l:List Int} (h:Iv w v l) (hk:∀ q,v.ownBlock=some q→l≠[]→q < w.heap.size→w'.heap[q]? = w.heap[q]?):Iv w' v l:=by
 obtain ⟨a,cap,rfl,h1,h2,h3,h4⟩:=h
 refine ⟨a,cap,rfl,h1,h2,fun ad had i u hu=>?_,h4⟩
 subst had
 have hc:=h3 _ rfl i u hu
 have hblk:(ad.add i).block=ad.block:=by
  unfold Addr.add
  split <;> rfl
 have hlt:=World.block_lt_of_cell? w _ hc
 exact (World.cell?_of_block (w:=w) (a:=ad.add i) (by rw [hblk] at hlt ⊢; exact hk _ rfl (fun e=>by rw [e] at hu; simp at hu) hlt)).trans hc
theorem Iv.open {w:World} {v:Value} {l:List Int} (h:Iv w v l) {i:Nat} {u:Int} (hu:l[i]? = some u):∃ g o cap,v = .slice (some ⟨g,o,none⟩) l.length cap∧w.cell? ⟨g,o+i,none⟩=some (.int .i64 u) ∧ -9223372036854775808≤u∧u≤9223372036854775807:=by
 obtain ⟨a,cap,rfl,h1,h2,h3,h4⟩:=h
 rcases a with _ | ⟨g,o,s⟩
 ·rw [h2 rfl] at hu
  simp at hu
 ·have hc:=h3 _ rfl i u hu
  have hlt:=(List.getElem?_eq_some_iff.1 hu).1
  have hs:s=none:=by simpa [Addr.add] using World.cell?_spot (h3 _ rfl 0 l[0] (List.getElem?_eq_getElem (by omega)))
  subst hs
  rw [Addr.add_lit] at hc
  exact ⟨g,o,cap,rfl,hc,h4 u (List.mem_of_getElem? hu)⟩
def OnJ (nb pb:Nat) (v:Value) (l:List Int) (i:Nat) (w:World):Prop :=
 Cel w nb [.int .i64 ((min i l.length:Nat):Int)] 3∧Cel w pb [v] 40∧Iv w v l
set_option maxRecDepth 100000 in
theorem on1_any {w:World} {nb pb:Nat} {v:Value} {l:List Int} {i m:Nat} (h:OnJ nb pb v l i w) (hm:m < 4294967296) (hn:nb≠pb) (hv:l≠[]→v.ownBlock≠some nb) :
  Calls Tryz.prog 59 #[.int .i64 (m:Int),ptr nb,ptr pb] w fun e w'=>e = .returned (.int .i64 (pickAt l i m:Nat))∧OnJ nb pb v l (i+1) w'∧Only (· = nb) w w':=by
 obtain ⟨hc,hp,hl⟩:=h
 obtain ⟨a,cap,rfl⟩:=hl.shape
 have c1:w.cell? ⟨nb,0,none⟩=some (.int .i64 ((min i l.length:Nat):Int)):=by rw [hc.cell]; rfl
 have c2:w.cell? ⟨pb,0,none⟩=some (.slice a l.length cap):=by rw [hp.cell]; rfl
 have f1:=hc.frozen 0
 have hlen:l.length≤9223372036854775807:=by
  obtain ⟨_,_,_,h1,_⟩:=hl
  exact h1
 by_cases hi:i < l.length
 ·rw [Nat.min_eq_left (by omega)] at c1
  obtain ⟨p,hpp⟩:∃ p,l[i]? = some p:=⟨_,List.getElem?_eq_getElem hi⟩
  obtain ⟨g,o,cap',e,hcell,hlo,hhi⟩:=hl.open hpp
  simp only [Value.slice.injEq] at e
  obtain ⟨rfl, -,rfl⟩:=e
  have hq:(((i:Int)) == (l.length:Int))=false:=by rw [beq_eq_false_iff_ne]; omega
  have hil:((i:Int) < (l.length:Int)):=by omega
  have hgn:g≠nb:=fun e=>hv (fun e=>by rw [e] at hi; simp at hi) (by rw [e]; rfl)
  have c3:(w.setCell ⟨nb,0,none⟩ (.int .i64 ((i:Int)+1))).cell? ⟨g,o+i,none⟩=some (.int .i64 p):=(World.cell?_setCell_other w _ _ _ (fun e=>hgn (by have:=congrArg Addr.block e; first | exact this | exact this.symm))).trans hcell
  have c4:(w.setCell ⟨nb,0,none⟩ (.int .i64 ((i:Int)+1))).cell? ⟨pb,0,none⟩=some (.slice (some ⟨g,o,none⟩) l.length cap):=(World.cell?_setCell_other w _ _ _ (fun e=>hn (by have:=congrArg Addr.block e; first | exact this | exact this.symm))).trans c2
  have c5:(w.setCell ⟨nb,0,none⟩ (.int .i64 ((i:Int)+1))).cell? ⟨nb,0,none⟩=some (.int .i64 ((i:Int)+1)):=by
   rw [(hc.set 0 _).cell]
   rfl
  have hfin:pickAt l i m=pickN p m:=by
   unfold pickAt
   rw [hpp]
   rfl
  have hon:OnJ nb pb (.slice (some ⟨g,o,none⟩) l.length cap) l (i+1) (w.setCell ⟨nb,0,none⟩ (.int .i64 ((i:Int)+1))):=by
   refine ⟨?_,hp.kept (Below.heap_setCell _ _ _ _ (fun e=>hn e.symm)),hl.kept fun q hq _ _=>Below.heap_setCell _ _ _ _ (fun e=>by
    cases hq
    exact hgn e)⟩
   have:=hc.set 0 (.int .i64 ((i:Int)+1))
   rw [Nat.min_eq_left (by omega)]
   exact this
  have ho:Only (· = nb) w (w.setCell ⟨nb,0,none⟩ (.int .i64 ((i:Int)+1))):=(Only.refl (· = nb) w).setCell (p:=⟨nb,0,none⟩) (.inl rfl) _
  have hpk:=pickN_int p m
  rw [hfin]
  have HF:=Lib.hid (anZ hon (anZ ho hpk))
  clear hon ho hpk hfin hcell hpp hl hc hp hv
  go_enter Tryz.func59,Tryz.ntmps59
  go_wp2
  go_ret
  exact ⟨by rw [HF.out.2.2]; rfl,HF.out.1,HF.out.2.1⟩
 ·rw [Nat.min_eq_right (by omega)] at c1
  have hfin:pickAt l i m=0:=by
   unfold pickAt
   rw [List.getElem?_eq_none (by omega)]
   exact pickN_zero m
  have hon:OnJ nb pb (.slice a l.length cap) l (i+1) w:=by
   refine ⟨?_,hp,hl⟩
   rw [Nat.min_eq_right (by omega)] at hc ⊢
   exact hc
  rw [hfin]
  have HF:=Lib.hid hon
  clear hon hfin hc hp hl hv hi
  go_enter Tryz.func59,Tryz.ntmps59
  go_wp2
  go_ret
  exact ⟨rfl,HF.out,Only.refl _ _⟩
section
variable {w:World} {b:Nat} {D:Dv} {F:Nat→Prop}
theorem settle_on (h:Dev w b D F) (hsmall:∀ (k:Nat) (x:Bk),D.bk[k]? = some x→x.loose.length < 4294967296) {v:Value} {l:List Int} {nb pb:Nat} (hj:OnJ nb pb v l 0 w) (hn:nb≠pb) (hnb:¬ F nb) (hpb:¬ F pb)
  (hoff:l≠[]→∀ q,v.ownBlock=some q→¬ F q) (hvn:l≠[]→v.ownBlock≠some nb) :
  Calls Tryz.prog 58 #[ptr b, .func (.func 59) #[] #[ptr nb,ptr pb]] w fun e w'=>e = .returned (.tuple #[])∧Dev w' b ⟨comes D.bk l,D.on,D.left⟩ (Grow F w w')∧Only (fun q=>F q∨q=nb) w w':=by
 obtain ⟨sb,mb,sv,lv,Dm,h⟩:=h
 have hlt:∀ q,v.ownBlock=some q→l≠[]→q < w.heap.size:=fun q hq hl=>by
  obtain ⟨_,_,hI⟩:=hj
  obtain ⟨u,hu⟩:∃ u,l[0]? = some u:=⟨_,List.getElem?_eq_getElem (List.length_pos_iff.2 hl)⟩
  obtain ⟨g,o,cap,rfl,hc,_⟩:=hI.open hu
  cases hq
  exact World.block_lt_of_cell? w _ hc
 have hp:∀ (i m:Nat) (W:World),OnJ nb pb v l i W→0 < m→m < 4294967296→i < (loosen D.bk).length→Calls Tryz.prog 59 (#[.int .i64 (m:Int)] ++ #[ptr nb,ptr pb]) W fun e W'=>e = .returned (.int .i64 (pickAt l i m:Nat))∧OnJ nb pb v l (i+1) W'∧Only (· = nb) W W':=fun i m W hJ _ hm _ =>
  on1_any hJ hm hn hvn
 refine (settle_in 12 (Nat.le_refl _) h (gf:=59) (caps := #[ptr nb,ptr pb]) (enters_of Tryz.func59 (by kernel_rfl) rfl) (pickAt l) (OnJ nb pb v l) (PS:=(· = nb)) (fun q e=>⟨by rw [e]; exact hnb,by rw [e]; exact hj.1.lt⟩) hj
  (fun i W W' hW hk=>⟨hW.1.kept (hk _ hj.1.lt (fun e=>hnb (e ▸ h.fs))),hW.2.1.kept (hk _ hj.2.1.lt (fun e=>hpb (e ▸ h.fs))),hW.2.2.kept fun q hq hl _=>hk q (hlt q hq hl) (fun e=>hoff hl q hq (e ▸ h.fs))⟩)
  (fun i m=>pickN_le _ _) hp hsmall (picksOf D.bk l) (fun k x hx hl=>picksOf_at hx hl)).mono ?_
 rintro e w' ⟨rfl,hd,ho⟩
 rw [settled_picks] at hd
 exact ⟨rfl,hd,ho⟩
theorem on_on (h:Dev w b D F) (ho:D.on=true) {v:Value} {l:List Int} (hv:Iv w v l):Calls Tryz.prog 18 #[ptr b,v] w fun e w'=>e = .returned (err 3)∧Below w.heap.size w w':=by
 obtain ⟨a,cap,rfl⟩:=hv.shape
 obtain ⟨sb,mb,sv,lv,Dm,h⟩:=h
 have c2:=(h.head.alloc (.cells #[.slice a l.length cap] 40)).cell 2
 have hb:=h.fl _ h.fb
 rw [ho] at c2
 clear h ho hv
 go_enter Tryz.func18,Tryz.ntmps18
 go_wp2
 go_ret
 exact ⟨rfl,(Below.refl _ _).alloc (Nat.le_refl _) _⟩
set_option maxRecDepth 100000 in
theorem on_ok (h:Dev w b D F) (ho:D.on=false) (hsmall:∀ (k:Nat) (x:Bk),D.bk[k]? = some x→x.loose.length < 4294967296) {v:Value} {l:List Int} (hv:Iv w v l) (hoff:l≠[]→∀ q,v.ownBlock=some q→¬ F q) :
  Calls Tryz.prog 18 #[ptr b,v] w fun e w'=>e = .returned (err 0)∧Dev w' b ⟨comes D.bk l,true, -1⟩ (Grow F w w')∧Only F w w':=by
 obtain ⟨a,cap,rfl⟩:=hv.shape
 have h0:=h
 obtain ⟨sb,mb,sv,lv,Dm,h⟩:=h
 have c2:=(h.head.alloc (.cells #[.slice a l.length cap] 40)).cell 2
 have hb:=h.fl _ h.fb
 have hbf:=h.fb
 rw [ho] at c2
 have hlt:∀ q,(Value.slice a l.length cap).ownBlock=some q→l≠[]→q < w.heap.size:=fun q hq hl=>by
  obtain ⟨u,hu⟩:∃ u,l[0]? = some u:=⟨_,List.getElem?_eq_getElem (List.length_pos_iff.2 hl)⟩
  obtain ⟨g,o,cap',e,hc,_⟩:=hv.open hu
  simp only [Value.slice.injEq] at e
  obtain ⟨rfl, -, -⟩:=e
  cases hq
  exact World.block_lt_of_cell? w _ hc
 have z1:(w.alloc (.cells #[.slice a l.length cap] 40)).heap.size=w.heap.size+1:=by simp
 have hbw:Below w.heap.size w ((w.alloc (.cells #[.slice a l.length cap] 40)).alloc (.cells #[.int .i64 0] 3)):=((Below.refl _ _).alloc (Nat.le_refl _) _).alloc (by simp) _
 have hj:OnJ (w.heap.size+1) w.heap.size (.slice a l.length cap) l 0 ((w.alloc (.cells #[.slice a l.length cap] 40)).alloc (.cells #[.int .i64 0] 3)):=by
  refine ⟨?_,(Cel.new w #[.slice a l.length cap] 40).alloc _,hv.kept fun q _ _ hq=>hbw.block q hq⟩
  have:=Cel.new (w.alloc (.cells #[.slice a l.length cap] 40)) #[.int .i64 0] 3
  rw [z1] at this
  rw [Nat.zero_min]
  exact this
 have hfl:=h0.fl
 have hS:=settle_on (h0.below hbw) hsmall hj (by omega) (fun hf=>by have:=hfl _ hf; omega) (fun hf=>by have:=hfl _ hf; omega) hoff (fun hl e=>by have:=hlt _ e hl; omega)
 have HO:=Lib.hid (anZ hS (anZ hbw h0.fl))
 clear ho hsmall hoff hS hj hlt z1 hbw hfl hv h h0
 go_enter Tryz.func18,Tryz.ntmps18
 go_wp2_with fail
 refine HO.out.1.mono ?_
 rintro e w2 ⟨rfl,hd,ho2⟩
 have hh2:=(headed_cell2 hd true).dev hd rfl
 have hh3:=(headed_cell3 hh2.1 (-1) (by omega) (by omega)).dev hh2.1 rfl
 have hc:=hd
 obtain ⟨sb2,mb2,sv2,lv2,Dm2,hc⟩:=hc
 have k2:=hc.cells.2.2.1
 have g2:=hc.cells.2.2.2.2.2.1
 have hhead:=hc.head.set 2 (.bool true)
 have k3:=hhead.cell 3
 have g3:=hhead.frozen 3
 have HF:=Lib.hid (anZ hh2 (anZ hh3 (anZ ho2 hc.fl)))
 clear hh2 hh3 hc hd hhead ho2
 go_wp2
 go_ret
 have hz:=HO.out.2.1.size
 have hz2:=HF.out.2.2.1.size
 refine ⟨rfl,HF.out.2.1.1.widen (fun q hq=>?_) (fun q hq=>?_),?_⟩
 ·exact hq.imp id fun hq'=>⟨by omega,HF.out.2.1.1.fl q hq⟩
 ·have s1:=HF.out.1.2.size
  have s2:=HF.out.2.1.2.size
  rcases hq with hq | hq
  ·have:=HO.out.2.2 q hq
   omega
  ·exact hq.2
 ·have hbF:F b:=hbf
  exact (((Only.of_below HO.out.2.1 F).then HF.out.2.2.1 (fun q hq=>hq.imp id fun e=>by omega)).then HF.out.1.2 (fun q e=>.inl (e ▸ hbF))).then HF.out.2.1.2 (fun q e=>.inl (e ▸ hbF))
end
end Go.Proofs.YtgkofgifoiinkaaGreat
namespace Go.Proofs.YtgkofgifoiinkaaGreat
open Go.RowKit Go.Maps
theorem row_info0:(Tryz.prog.info? 24).map (fun i=>(i.zero,i.size,i.bytes))=some (some nilSl,1,24):=by kernel_rfl
def News (w:World) (n:Nat) (e:Ending) (w':World):Prop :=
 ∃ b,e = .returned (.tuple #[ptr b,err 0])∧Dev w' b (fresh n) (fun q=>w.heap.size≤q∧q < w'.heap.size)∧Below w.heap.size w w'
theorem made_rows (n:Nat):(madeCells nilSl.cells (n*1)).toList=List.replicate n nilSl:=by
 apply List.ext_getElem?
 intro j
 by_cases hj:j < n
 ·simp [madeCells,hj,Value.cells,Nat.mod_one]
 ·simp [madeCells,hj]
theorem fresh_get {n k:Nat} {x:Bk} (h:(fresh n).bk[k]? = some x):x=⟨noughts,[]⟩∧k < n:=by
 have h1:(fresh n).bk=List.replicate n ⟨noughts,[]⟩:=rfl
 rw [h1,List.getElem?_replicate] at h
 split at h
 ·simp only [Option.some.injEq] at h
  exact ⟨h.symm,by assumption⟩
 ·cases h
theorem new_dev {w w1:World} {n:Nat} (h1:1≤n) (h2:n≤4096) (c1:Cel w1 w.heap.size (List.replicate n nilSl) 24) (hz:w.heap.size < w1.heap.size) :
  Dev ((w1.alloc (.map #[] 0)).alloc (.cells #[.slice (some ⟨w.heap.size,0,none⟩) n n, .map (some w1.heap.size), .bool true, .int .i64 (-1)] 72)) (w1.heap.size+1) (fresh n)
   (fun q=>w.heap.size≤q∧q < w1.heap.size+2):=by
 have hm:=World.ownsMap_made (H:=Value) w1 Tryz.prog 3 rawR
 have hlen:(fresh n).bk.length=n:=List.length_replicate
 have z2:(w1.alloc (.map #[] 0)).heap.size=w1.heap.size+1:=by simp
 have hh:=Cel.new (w1.alloc (.map #[] 0)) #[.slice (some ⟨w.heap.size,0,none⟩) n n, .map (some w1.heap.size), .bool true, .int .i64 (-1)] 72
 rw [z2] at hh
 refine ⟨w.heap.size,w1.heap.size,List.replicate n nilSl,fun _=>nilSl, .map [], {
  head:=by rw [hlen]; exact hh
  rows:=(c1.alloc _).alloc _
  svl:=by rw [hlen,List.length_replicate]
  sure:=fun k x hx=>by
   obtain ⟨rfl,hk⟩:=fresh_get hx
   exact ⟨nilSl,by rw [List.getElem?_replicate,if_pos hk], .inl ⟨rfl,rfl⟩⟩
  map:=((hm.mono (by omega:0≤4096)).alloc _)
  keys:=fun k x hx=>by
   obtain ⟨rfl,hk⟩:=fresh_get hx
   exact ⟨rfl,rfl⟩
  only:=fun kl h=>by cases h
  loose:=fun k x hx=>by
   obtain ⟨rfl,hk⟩:=fresh_get hx
   exact RowF.nil _ _
  apart:=fun j k _ _ _=>.inl rfl
  off:=fun k _ h=>by cases h
  fb:=⟨by omega,by omega⟩
  fs:=⟨by omega,by omega⟩
  fm:=⟨by omega,by omega⟩
  fl:=fun g hg=>by
   have:=hg.2
   simp only [World.size_alloc]
   omega
  pos:=by rw [hlen]; exact h1
  few:=by rw [hlen]; exact h2
  low:=by show (-1:Int) ≤ -1; omega
  high:=by show (-1:Int)≤_; omega }⟩
theorem new_ok (n:Nat) (w:World) (h1:1≤n) (h2:n≤4096):Calls Tryz.prog 9 #[.int .i64 (n:Int)] w (News w n):=by
 obtain ⟨i0,hi,hz0,hz1,hz2⟩:=info_parts row_info0
 obtain ⟨w1,hmk,o1,g1⟩:=run_make_full (P:=Tryz.prog) w w.heap.size 69 24 i0 nilSl 1 Tryz.underlying69 hi hz0 hz1 .i64 .i64 n (by rw [hz2]; omega) (by unfold maxLen; omega) (Nat.le_refl _)
 have c1:Cel w1 w.heap.size (List.replicate n nilSl) 24:=by
  rcases o1.2 with ⟨h,_⟩ | ⟨g,cap,cur,hv,_,hg,_,_,hs,ht⟩
  ·cases h
  ·simp only [Value.slice.injEq,Option.some.injEq,Addr.mk.injEq] at hv
   obtain ⟨⟨rfl,_⟩,_,rfl⟩:=hv
   rw [List.take_of_length_le (by simp [hs])] at ht
   rw [made_rows] at ht
   unfold Cel
   rw [← ht]
   simpa using hg
 have hb1:Below w.heap.size w w1:=(Below.refl _ _).grown g1 (Nat.le_refl _) (fun _ h=>by cases h)
 have hsz:=c1.lt
 have hd:=new_dev h1 h2 c1 hsz
 have hmm := @run_makeMap Tryz.prog
 have t1:decide ((n:Int) < 1)=false:=by simp; omega
 have t2:decide ((4096:Int) < (n:Int))=false:=by simp; omega
 have H:=Lib.hid (anZ hd (anZ hb1 hsz))
 clear hd o1 g1 c1 hb1 hi hz0 hz1 hz2 h1 h2 hsz
 go_enter Tryz.func9,Tryz.ntmps9
 go_wp2
 go_ret2
 refine ⟨_,rfl,?_,?_⟩
 ·have:=H.out.1
  simpa using this
 ·exact (H.out.2.1.alloc H.out.2.1.size _).alloc (by have:=H.out.2.1.size; simp; omega) _
end Go.Proofs.YtgkofgifoiinkaaGreat
namespace Go.Proofs.YtgkofgifoiinkaaGreat
open Go.RowKit Go.Maps
def Mine (w0 w:World) (b:Nat) (D:Dv):Prop:=∃ F,Dev w b D F∧(∀ q,F q→w0.heap.size≤q)∧Below w0.heap.size w0 w
def MineB (w0 w:World) (b:Nat) (D:Dv) (v:Value) (l:Bytes):Prop:=∃ F,Dev w b D F∧(∀ q,F q→w0.heap.size≤q)∧Below w0.heap.size w0 w∧Bs w v l∧∀ q,v.ownBlock=some q→¬ F q
def MineI (w0 w:World) (b:Nat) (D:Dv) (v:Value) (l:List Int):Prop:=∃ F,Dev w b D F∧(∀ q,F q→w0.heap.size≤q)∧Below w0.heap.size w0 w∧Iv w v l∧(l≠[]→∀ q,v.ownBlock=some q→¬ F q)
def Small (D:Dv):Prop:=∀ (k:Nat) (x:Bk),D.bk[k]? = some x→x.loose.length < 4294967296
section
variable {w0 w:World} {b:Nat} {D:Dv} {v:Value} {l:Bytes}
theorem Mine.under (h:Mine w0 w b D):Below w0.heap.size w0 w:=let ⟨_,_,_,h3⟩:=h; h3
theorem Mine.later {w':World} (h:Mine w0 w b D) (hb:Below w.heap.size w w'):Mine w0 w' b D:=by
 obtain ⟨F,h1,h2,h3⟩:=h
 exact ⟨F,h1.below hb,h2,h3.trans (hb.mono h3.size)⟩
theorem MineB.later {w':World} (h:MineB w0 w b D v l) (hb:Below w.heap.size w w'):MineB w0 w' b D v l:=by
 obtain ⟨F,h1,h2,h3,h4,h5⟩:=h
 exact ⟨F,h1.below hb,h2,h3.trans (hb.mono h3.size),h4.below hb,h5⟩
theorem Mine.len (h:Mine w0 w b D):0 < D.bk.length∧D.bk.length≤4096:=by
 obtain ⟨F,⟨sb,mb,sv,lv,Dm,h1⟩,_⟩:=h
 exact ⟨h1.pos,h1.few⟩
theorem Mine.with {w':World} (h:Mine w0 w b D) {g:Nat} (hb:Below w.heap.size w w') (hc:Cel w' g (bvs l) 5) (hl:l.length=512) (hg:w.heap.size≤g):MineB w0 w' b D (.slice (some ⟨g,0,none⟩) 512 512) l:=by
 obtain ⟨F,h1,h2,h3⟩:=h
 refine ⟨F,h1.below hb,h2,h3.trans (hb.mono h3.size),Blk.bs ⟨g,rfl,hc,hl⟩,fun q e hq=>?_⟩
 have e':g=q:=Option.some.inj e
 subst e'
 have:=h1.fl _ hq
 omega
theorem Mine.old (h:Mine w0 w b D) {l:List Int} (hv:Iv w0 v l):MineI w0 w b D v l:=by
 obtain ⟨F,h1,h2,h3⟩:=h
 refine ⟨F,h1,h2,h3,hv.kept fun q _ _ hq=>h3.block q hq,fun hl q e hf=>?_⟩
 obtain ⟨u,hu⟩:∃ u,l[0]? = some u:=⟨_,List.getElem?_eq_getElem (List.length_pos_iff.2 hl)⟩
 obtain ⟨g,o,cap,rfl,hc,_⟩:=hv.open hu
 have e':g=q:=Option.some.inj e
 subst e'
 have:=h2 g hf
 have:=World.block_lt_of_cell? w0 _ hc
 simp only at this
 omega
theorem Mine.lit (h:Mine w0 w b D) (l:List Int) (hl:l.length≤1000) (hr:∀ u∈l, -9223372036854775808≤u∧u≤9223372036854775807) {n:Nat} (hn:n=l.length) {cs:Array Value} (hcs:cs=(l.map (Value.int .i64)).toArray) :
  MineI w0 (w.alloc (.cells cs 3)) b D (.slice (some ⟨w.heap.size,0,none⟩) n n) l:=by
 subst hn
 subst hcs
 have hb:Below w.heap.size w (w.alloc (.cells (l.map (Value.int .i64)).toArray 3)):=(Below.refl _ _).alloc (Nat.le_refl _) _
 obtain ⟨F,h1,h2,h3⟩:=h
 refine ⟨F,h1.below hb,h2,h3.trans (hb.mono h3.size),⟨some ⟨w.heap.size,0,none⟩,_,rfl,by omega,(fun e=>by cases e),fun ad had i u hu=>?_,hr⟩,fun _ q e hf=>?_⟩
 ·cases had
  rw [Addr.add_lit,Nat.zero_add,(Cel.new w _ _).cell]
  simp [hu]
 ·have e':w.heap.size=q:=Option.some.inj e
  subst e'
  have:=h1.fl _ hf
  omega
theorem m_new (n:Nat) (w:World) (h1:1≤n) (h2:n≤4096):Calls Tryz.prog 9 #[.int .i64 (n:Int)] w fun e w'=>∃ b,e = .returned (.tuple #[ptr b,err 0])∧Mine w w' b (fresh n):=by
 refine (new_ok n w h1 h2).mono ?_
 rintro e w' ⟨b,rfl,hd,hb⟩
 exact ⟨b,rfl,_,hd,fun q hq=>hq.1,hb⟩
theorem stands_len {F:Nat→Prop} (h:Dev w b D F) {k:Nat} {x:Bk} (hx:D.bk[k]? = some x):x.stands.length=512:=by
 obtain ⟨sb,mb,sv,lv,Dm,h⟩:=h
 rcases hl:x.loose.length with _ | n
 ·rw [Bk.stands_nil (List.eq_nil_of_length_eq_zero hl)]
  obtain ⟨u,_,⟨_,e⟩ | hb⟩:=h.sure k x hx
  ·rw [e]; exact List.length_replicate
  ·exact hb.blk.len
 ·have h1:=Bk.stands_some hl
  obtain ⟨vals,_,hv,_⟩:=h.loose k x hx
  obtain ⟨u,_,hb⟩:=hv n _ h1
  exact hb.blk.len
end
end Go.Proofs.YtgkofgifoiinkaaGreat
namespace Go.Proofs.YtgkofgifoiinkaaGreat
open Go.RowKit Go.Maps
def noSuch (D:Dv) (k:Int) (l:Bytes):Prop:=k < 0∨(D.bk.length:Int)≤k∨l.length≠512
instance (D:Dv) (k:Int) (l:Bytes):Decidable (noSuch D k l):=by unfold noSuch; infer_instance
def wcode (D:Dv) (k:Int) (l:Bytes):Int:=if D.on=false then 8 else if noSuch D k l then 1 else if D.left=0 then 8 else 0
def wdev (D:Dv) (k:Int) (l:Bytes):Dv:=if D.on=false then D else if noSuch D k l then D else if D.left=0 then ⟨D.bk,false,D.left⟩ else ⟨wrote D.bk k.toNat l,D.on,spent D.left⟩
def fcode (D:Dv):Int:=if D.on=false then 8 else if D.left=0 then 8 else 0
def fdev (D:Dv):Dv:=if D.on=false then D else if D.left=0 then ⟨D.bk,false,D.left⟩ else ⟨flushed D.bk,D.on,spent D.left⟩
def acode (D:Dv):Int:=if D.on=false then 8 else 0
def adev (D:Dv) (n:Int):Dv:=if D.on=false then D else ⟨D.bk,D.on,max n (-1)⟩
def ocode (D:Dv):Int:=if D.on=false then 8 else 0
def odev (D:Dv):Dv:=if D.on=false then D else ⟨D.bk,false,D.left⟩
def ncode (D:Dv):Int:=if D.on=false then 0 else 3
def ndev (D:Dv) (l:List Int):Dv:=if D.on=false then ⟨comes D.bk l,true, -1⟩ else D
def DSteps (w:World) (b:Nat) (F:Nat→Prop) (c:Int) (D':Dv) (e:Ending) (w':World):Prop:=e = .returned (err c)∧Dev w' b D' (Grow F w w')∧Only F w w'
section
variable {w w':World} {b:Nat} {D D':Dv} {F:Nat→Prop}
theorem Dev.fb (h:Dev w b D F):F b:=by obtain ⟨sb,mb,sv,lv,Dm,h⟩:=h; exact h.fb
theorem grow_lt (hF:∀ q,F q→q < w.heap.size) (hs:w.heap.size≤w'.heap.size):∀ q,Grow F w w' q→q < w'.heap.size:=fun q hq=>by
 rcases hq with hq | hq
 ·have:=hF q hq; omega
 ·exact hq.2
theorem d_grow (h0:Dev w b D F) (h:Dev w' b D' F) (ho:Only (· = b) w w'):Dev w' b D' (Grow F w w')∧Only F w w' :=
 ⟨h.widen (fun _ hq=>.inl hq) (grow_lt h0.fl ho.size),ho.mono fun _ _ e=>e ▸ h0.fb⟩
theorem d_same (h0:Dev w b D F):Dev w b D (Grow F w w)∧Only F w w:=⟨h0.widen (fun _ hq=>.inl hq) (grow_lt h0.fl (Nat.le_refl _)),Only.refl _ _⟩
theorem d_later (h0:Dev w b D F) (hb:Below w.heap.size w w'):Dev w' b D (Grow F w w')∧Only F w w':=⟨(h0.below hb).widen (fun _ hq=>.inl hq) (grow_lt h0.fl hb.size),Only.of_below hb F⟩
theorem nosuch_not {k:Int} {l:Bytes} (h:¬ noSuch D k l):∃ n x,k=(n:Nat)∧D.bk[n]? = some x∧l.length=512:=by
 have h1:¬ k < 0:=fun e=>h (.inl e)
 have h2:¬ (D.bk.length:Int)≤k:=fun e=>h (.inr (.inl e))
 have h3:¬ l.length≠512:=fun e=>h (.inr (.inr e))
 exact ⟨k.toNat,D.bk[k.toNat]'(by omega),by omega,List.getElem?_eq_getElem (by omega),by omega⟩
theorem dwrite_any (h:Dev w b D F) (hs:Small D) (k:Int) {v:Value} {l:Bytes} (hv:Bs w v l) (hoff:∀ q,v.ownBlock=some q→¬ F q) :
  Calls Tryz.prog 71 #[ptr b, .int .i64 k,v] w (DSteps w b F (wcode D k l) (wdev D k l)):=by
 unfold wcode wdev
 by_cases ho:D.on=false
 ·rw [if_pos ho,if_pos ho]
  refine (write_off h ho k v).mono ?_
  rintro e w' ⟨rfl,rfl⟩
  exact ⟨rfl,d_same h⟩
 have ho':D.on=true:=by simpa using ho
 rw [if_neg ho,if_neg ho]
 by_cases hn:noSuch D k l
 ·rw [if_pos hn,if_pos hn]
  by_cases hk:k < 0∨(D.bk.length:Int)≤k
  ·refine (write_no h ho' k hk v).mono ?_
   rintro e w' ⟨rfl,rfl⟩
   exact ⟨rfl,d_same h⟩
  ·obtain ⟨n,rfl⟩:∃ n:Nat,k=n:=⟨k.toNat,by omega⟩
   have hl:l.length≠512:=by
    rcases hn with h1 | h1 | h1
    ·exact absurd (.inl h1) hk
    ·exact absurd (.inr h1) hk
    ·exact h1
   refine (write_short h ho' n (by omega) hv hl).mono ?_
   rintro e w' ⟨rfl,rfl⟩
   exact ⟨rfl,d_same h⟩
 rw [if_neg hn,if_neg hn]
 obtain ⟨n,x,rfl,hx,hl⟩:=nosuch_not hn
 have hk:=(List.getElem?_eq_some_iff.1 hx).1
 by_cases hz:D.left=0
 ·rw [if_pos hz,if_pos hz]
  refine (write_dies h ho' hz n hk hv hl).mono ?_
  rintro e w' ⟨rfl,hd,hon⟩
  exact ⟨rfl,d_grow h hd hon⟩
 ·rw [if_neg hz,if_neg hz]
  exact write_ok h ho' hz hx (hs n x hx) hv hl hoff
theorem dflush_any (h:Dev w b D F) (hs:Small D):Calls Tryz.prog 72 #[ptr b] w (DSteps w b F (fcode D) (fdev D)):=by
 unfold fcode fdev
 by_cases ho:D.on=false
 ·rw [if_pos ho,if_pos ho]
  refine (flush_off h ho).mono ?_
  rintro e w' ⟨rfl,rfl⟩
  exact ⟨rfl,d_same h⟩
 have ho':D.on=true:=by simpa using ho
 rw [if_neg ho,if_neg ho]
 by_cases hz:D.left=0
 ·rw [if_pos hz,if_pos hz]
  refine (flush_dies h ho' hz).mono ?_
  rintro e w' ⟨rfl,hd,hon⟩
  exact ⟨rfl,d_grow h hd hon⟩
 ·rw [if_neg hz,if_neg hz]
  exact flush_ok h ho' hz hs
theorem doff_any (h:Dev w b D F):Calls Tryz.prog 17 #[ptr b] w (DSteps w b F (ocode D) (odev D)):=by
 unfold ocode odev
 by_cases ho:D.on=false
 ·rw [if_pos ho,if_pos ho]
  refine (off_off h ho).mono ?_
  rintro e w' ⟨rfl,rfl⟩
  exact ⟨rfl,d_same h⟩
 ·have ho':D.on=true:=by simpa using ho
  rw [if_neg ho,if_neg ho]
  refine (off_on h ho').mono ?_
  rintro e w' ⟨rfl,hd,hon⟩
  exact ⟨rfl,d_grow h hd hon⟩
theorem don_any (h:Dev w b D F) (hs:Small D) {v:Value} {l:List Int} (hv:Iv w v l) (hoff:l≠[]→∀ q,v.ownBlock=some q→¬ F q):Calls Tryz.prog 18 #[ptr b,v] w (DSteps w b F (ncode D) (ndev D l)):=by
 unfold ncode ndev
 by_cases ho:D.on=false
 ·rw [if_pos ho,if_pos ho]
  exact on_ok h ho hs hv hoff
 ·have ho':D.on=true:=by simpa using ho
  rw [if_neg ho,if_neg ho]
  refine (on_on h ho' hv).mono ?_
  rintro e w' ⟨rfl,hb⟩
  exact ⟨rfl,d_later h hb⟩
end
def Upto (D:Dv) (n:Nat):Prop:=∀ (k:Nat) (x:Bk),D.bk[k]? = some x→x.loose.length≤n
theorem Upto.small {D:Dv} {n:Nat} (h:Upto D n) (hn:n < 4294967296):Small D:=fun k x hx=>by have:=h k x hx; omega
theorem Upto.more {D:Dv} {n m:Nat} (h:Upto D n) (hn:n≤m):Upto D m:=fun k x hx=>by have:=h k x hx; omega
theorem wdev_upto {D:Dv} {n:Nat} (h:Upto D n) (k:Int) (l:Bytes):Upto (wdev D k l) (n+1)∧(wdev D k l).bk.length=D.bk.length:=by
 unfold wdev
 split
 ·exact ⟨h.more (by omega),rfl⟩
 split
 ·exact ⟨h.more (by omega),rfl⟩
 split
 ·exact ⟨fun j x hx=>by have:=h j x hx; omega,rfl⟩
 ·refine ⟨fun j x hx=>?_,wrote_length _ _ _⟩
  simp only [wrote_get] at hx
  split at hx
  ·obtain ⟨y,hy,rfl⟩:=Option.map_eq_some_iff.1 hx
   have:=h j y hy
   simp
   omega
  ·have:=h j x hx
   omega
theorem fdev_upto {D:Dv} {n:Nat} (h:Upto D n):Upto (fdev D) (n+1)∧(fdev D).bk.length=D.bk.length:=by
 unfold fdev
 split
 ·exact ⟨h.more (by omega),rfl⟩
 split
 ·exact ⟨fun j x hx=>by have:=h j x hx; omega,rfl⟩
 ·refine ⟨fun j x hx=>?_,flushed_length _⟩
  simp only [flushed,List.getElem?_map] at hx
  obtain ⟨y,hy,rfl⟩:=Option.map_eq_some_iff.1 hx
  simp
end Go.Proofs.YtgkofgifoiinkaaGreat
namespace Go.Proofs.YtgkofgifoiinkaaGreat
abbrev Pg:=Bool × Bool
def pnum:Pg→Nat
 | (true,true)=>1
 | (false,true)=>2
 | (true,false)=>3
 | (false,false)=>0
theorem pnum_free {x:Pg}:pnum x=0↔x=(false,false):=by rcases x with ⟨_ | _,_ | _⟩ <;> simp [pnum]
def leastFree:List Pg→Option Nat:=List.findIdx? fun x=>pnum x == 0
def ixP (l:List Pg):Int:=match leastFree l with | some k=>(k:Int) | none => -1
theorem ixP_some {l:List Pg} {k:Nat} (h:leastFree l=some k):ixP l=k:=by simp [ixP,h]
theorem ixP_none {l:List Pg} (h:leastFree l=none):ixP l = -1:=by simp [ixP,h]
def tcode (l:List Pg):Int:=match leastFree l with | some _=>0 | none=>7
def tpage (l:List Pg):Int:=match leastFree l with | some k=>(k:Int) | none=>0
def tdone (l:List Pg):List Pg:=match leastFree l with | some k=>l.set k (false,true) | none=>l
def pgAt (l:List Pg) (k:Int):Option Pg:=if 0≤k then l[k.toNat]? else none
def ucode (l:List Pg) (k:Int):Int:=match pgAt l k with | none=>1 | some x=>if pnum x=0 then 0 else 3
def udone (l:List Pg) (k:Int):List Pg:=match pgAt l k with | none=>l | some x=>if pnum x=0 then l.set k.toNat (true,true) else l
def rcode (l:List Pg) (k:Int):Int:=match pgAt l k with | none=>1 | some x=>if x.2=true then 0 else 3
def rdone (l:List Pg) (k:Int):List Pg:=match pgAt l k with | none=>l | some x=>if x.2=true then l.set k.toNat (x.1,false) else l
def settledP (l:List Pg):List Pg:=l.map fun x=>(x.2,x.2)
def backP (l:List Pg):List Pg:=l.map fun x=>(x.1,x.1)
def stateP (l:List Pg) (k:Int):Nat:=match pgAt l k with | none=>0 | some x=>pnum x
def freeP (l:List Pg):Nat:=l.countP fun x=>pnum x == 0
theorem pgAt_nat {l:List Pg} {k:Nat}:pgAt l (k:Int)=l[k]?:=by simp [pgAt]
theorem pgAt_some {l:List Pg} {k:Int} {x:Pg} (h:pgAt l k=some x):∃ n:Nat,k=n∧n < l.length∧l[n]? = some x:=by
 unfold pgAt at h
 split at h
 ·exact ⟨k.toNat,by omega,(List.getElem?_eq_some_iff.1 h).1,h⟩
 ·cases h
theorem pgAt_none {l:List Pg} {k:Int} (h:pgAt l k=none):k < 0∨(l.length:Int)≤k:=by
 unfold pgAt at h
 split at h
 ·have:=List.getElem?_eq_none_iff.1 h
  omega
 ·omega
theorem least_some {l:List Pg} {k:Nat} (h:leastFree l=some k):∃ x,l[k]? = some x∧pnum x=0∧∀ (j:Nat) (y:Pg),j < k→l[j]? = some y→pnum y≠0:=by
 unfold leastFree at h
 obtain ⟨hk,h1,h2⟩:=List.findIdx?_eq_some_iff_getElem.1 h
 refine ⟨l[k],List.getElem?_eq_getElem hk,by simpa using h1,fun j y hj hy=>?_⟩
 have:=h2 j hj
 rw [(List.getElem?_eq_some_iff.1 hy).2] at this
 simpa using this
theorem least_none {l:List Pg} (h:leastFree l=none):∀ (j:Nat) (y:Pg),l[j]? = some y→pnum y≠0:=by
 intro j y hy
 unfold leastFree at h
 have:=List.findIdx?_eq_none_iff.1 h y (List.mem_of_getElem? hy)
 simpa using this
theorem least_of {l:List Pg} {k:Nat} {x:Pg} (hx:l[k]? = some x) (h0:pnum x=0) (h:∀ (j:Nat) (y:Pg),j < k→l[j]? = some y→pnum y≠0):leastFree l=some k:=by
 unfold leastFree
 obtain ⟨hk,e⟩:=List.getElem?_eq_some_iff.1 hx
 refine List.findIdx?_eq_some_iff_getElem.2 ⟨hk,by simp [e,h0],fun j hj=>?_⟩
 have:=h j _ hj (List.getElem?_eq_getElem (by omega))
 simpa using this
theorem least_of_none {l:List Pg} (h:∀ (j:Nat) (y:Pg),l[j]? = some y→pnum y≠0):leastFree l=none:=by
 unfold leastFree
 refine List.findIdx?_eq_none_iff.2 fun x hx=>?_
 obtain ⟨j,hj⟩:=List.getElem?_of_mem hx
 have:=h j x hj
 simpa using this
end Go.Proofs.YtgkofgifoiinkaaGreat
namespace Go.Proofs.YtgkofgifoiinkaaGreat
open Go.RowKit
abbrev pv (x:Pg):Value:=.int .u8 (pnum x:Nat)
def pvs (l:List Pg):List Value:=l.map pv
structure PgAt (w:World) (b sb:Nat) (l:List Pg) (F:Nat→Prop):Prop where
 head:Cel w b [.slice (some ⟨sb,0,none⟩) l.length l.length] 140
 row:Cel w sb (pvs l) 158
 fb:F b
 fs:F sb
 fl:∀ q,F q→q < w.heap.size
 pos:0 < l.length
 few:l.length≤4096
def Pgs (w:World) (b:Nat) (l:List Pg) (F:Nat→Prop):Prop:=∃ sb,PgAt w b sb l F
section
variable {w w':World} {b sb:Nat} {l:List Pg} {F F':Nat→Prop}
theorem PgAt.kept (h:PgAt w b sb l F) (hk:∀ q,F q→w'.heap[q]? = w.heap[q]?) (hs:w.heap.size≤w'.heap.size):PgAt w' b sb l F :=
 ⟨h.head.kept (hk b h.fb),h.row.kept (hk sb h.fs),h.fb,h.fs,fun q hq=>Nat.lt_of_lt_of_le (h.fl q hq) hs,h.pos,h.few⟩
theorem Pgs.kept (h:Pgs w b l F) (hk:∀ q,F q→w'.heap[q]? = w.heap[q]?) (hs:w.heap.size≤w'.heap.size):Pgs w' b l F:=let ⟨sb,h⟩:=h; ⟨sb,h.kept hk hs⟩
theorem Pgs.fl (h:Pgs w b l F):∀ q,F q→q < w.heap.size:=let ⟨_,h⟩:=h; h.fl
theorem Pgs.fb (h:Pgs w b l F):F b:=let ⟨_,h⟩:=h; h.fb
theorem Pgs.pos (h:Pgs w b l F):0 < l.length:=let ⟨_,h⟩:=h; h.pos
theorem Pgs.few (h:Pgs w b l F):l.length≤4096:=let ⟨_,h⟩:=h; h.few
theorem Pgs.below (h:Pgs w b l F) (hb:Below w.heap.size w w'):Pgs w' b l F:=h.kept (fun q hq=>hb.block q (h.fl q hq)) hb.size
theorem Pgs.other {S:Nat→Prop} (h:Pgs w b l F) (ho:Only S w w') (hd:∀ q,F q→¬ S q):Pgs w' b l F:=h.kept (fun q hq=>ho.block q (h.fl q hq) (hd q hq)) ho.size
theorem Pgs.widen (h:Pgs w b l F) (hf:∀ q,F q→F' q) (hs:∀ q,F' q→q < w.heap.size):Pgs w b l F':=let ⟨sb,h⟩:=h; ⟨sb,h.head,h.row,hf _ h.fb,hf _ h.fs,hs,h.pos,h.few⟩
theorem PgAt.top (h:PgAt w b sb l F):w.cell? ⟨b,0,none⟩=some (.slice (some ⟨sb,0,none⟩) l.length l.length):=by rw [h.head.cell]; rfl
theorem PgAt.at (h:PgAt w b sb l F) {k:Nat} {x:Pg} (hx:l[k]? = some x):w.cell? ⟨sb,k,none⟩=some (.int .u8 (pnum x:Nat))∧w.frozen? ⟨sb,k,none⟩=false:=by
 refine ⟨?_,h.row.frozen k⟩
 rw [h.row.cell]
 simp [pvs,hx]
theorem PgAt.ne (h:PgAt w b sb l F):b≠sb:=fun e=>by
 subst e
 have:=(h.head.inj h.row).2
 cases this
theorem PgAt.set (h:PgAt w b sb l F) (k:Nat) (x:Pg):PgAt (w.setCell ⟨sb,k,none⟩ (pv x)) b sb (l.set k x) F where
 head:=by
  rw [List.length_set]
  exact h.head.kept (Below.heap_setCell _ _ _ _ (fun e=>h.ne e))
 row:=by
  have:=h.row.set k (pv x)
  unfold pvs at *
  rw [← List.map_set] at this
  exact this
 fb:=h.fb
 fs:=h.fs
 fl q hq:=by have:=h.fl q hq; simpa [World.setCell] using this
 pos:=by rw [List.length_set]; exact h.pos
 few:=by rw [List.length_set]; exact h.few
theorem PgAt.only (h:PgAt w b sb l F) (k:Nat) (u:Value):Only F w (w.setCell ⟨sb,k,none⟩ u):=(Only.refl F w).setCell (p:=⟨sb,k,none⟩) (.inl h.fs) u
end
end Go.Proofs.YtgkofgifoiinkaaGreat
namespace Go.Proofs.YtgkofgifoiinkaaGreat
open Go.RowKit
section
variable {w:World} {b:Nat} {l:List Pg} {F:Nat→Prop}
def PSteps (w:World) (b:Nat) (F:Nat→Prop) (c:Int) (l:List Pg) (e:Ending) (w':World):Prop:=e = .returned (err c)∧Pgs w' b l F∧Only F w w'
theorem known_no (h:Pgs w b l F) {k:Int} (hk:pgAt l k=none):Calls Tryz.prog 119 #[ptr b, .int .i64 k] w fun e w'=>e = .returned (err 1)∧w=w':=by
 obtain ⟨sb,h⟩:=h
 have c0:=h.top
 have hf:=h.few
 have hk:=pgAt_none hk
 by_cases h0:k < 0
 ·clear h hk
  go_enter Tryz.func119,Tryz.ntmps119
  go_wp2
  go_ret
  exact ⟨rfl,rfl⟩
 ·have h1:decide (k < 0)=false:=by simp; omega
  have h2:(l.length:Int)≤k:=by omega
  clear h hk h0
  go_enter Tryz.func119,Tryz.ntmps119
  go_wp2
  go_ret
  exact ⟨rfl,rfl⟩
theorem known_yes (h:Pgs w b l F) (k:Nat) (hk:k < l.length):Calls Tryz.prog 119 #[ptr b, .int .i64 (k:Int)] w fun e w'=>e = .returned (err 0)∧w=w':=by
 obtain ⟨sb,h⟩:=h
 have c0:=h.top
 have hf:=h.few
 have h1:decide ((k:Int) < 0)=false:=by simp
 have h2:decide ((l.length:Int)≤k)=false:=by simp; omega
 clear h
 go_enter Tryz.func119,Tryz.ntmps119
 go_wp2
 go_ret
 exact ⟨rfl,rfl⟩
theorem pgsize_any (h:Pgs w b l F):Calls Tryz.prog 95 #[ptr b] w fun e w'=>e = .returned (.int .i64 (l.length:Nat))∧w=w':=by
 obtain ⟨sb,h⟩:=h
 have c0:=h.top
 clear h
 go_enter Tryz.func95,Tryz.ntmps95
 go_wp2
 go_ret
 exact ⟨rfl,rfl⟩
end
end Go.Proofs.YtgkofgifoiinkaaGreat
