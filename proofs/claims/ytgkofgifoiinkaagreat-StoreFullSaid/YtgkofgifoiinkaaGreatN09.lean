/- A range over a method value whose rounds all go on: the statement out of one contract of the method and one walk of the body; no condition. -/
import Derived.Test.YtgkofgifoiinkaaGreatN08
import Derived.Test.YtgkofgifoiinkaaGreatN05
import Derived.Test.YtgkofgifoiinkaaGreatN01
import Derived.RangeFuncNested
import Derived.RangeFuncCalls
import Derived.RangeFuncLeaves
namespace Go.Proofs.YtgkofgifoiinkaaGreat
open Go.RowKit Go.Maps
def Keeps2 (b mb:Nat) (w1 w:World):Prop:=w.heap[b]? = w1.heap[b]? ∧ w.heap[mb]? = w1.heap[mb]?
section
variable {w:World} {b:Nat} {D:Dv} {F:Nat→Prop}
theorem write_off (h:Dev w b D F) (ho:D.on=false) (k:Int) (v:Value):Calls Tryz.prog 71 #[ptr b, .int .i64 k,v] w fun e w'=>e = .returned (err 8)∧w=w':=by
 go_enter Tryz.func71,Tryz.ntmps71
 go_wp2_with fail
 refine (ready_off h ho).mono ?_
 rintro e w1 ⟨rfl,rfl⟩
 go_wp2
 go_ret
 exact ⟨rfl,rfl⟩
theorem write_no (h:Dev w b D F) (ho:D.on=true) (k:Int) (hk:k < 0∨(D.bk.length:Int)≤k) (v:Value):Calls Tryz.prog 71 #[ptr b, .int .i64 k,v] w fun e w'=>e = .returned (err 1)∧w=w':=by
 have HO:=Lib.hid ho
 clear ho
 go_enter Tryz.func71,Tryz.ntmps71
 go_wp2_with fail
 refine (ready_on h HO.out).mono ?_
 rintro e w1 ⟨rfl,rfl⟩
 go_wp2_with fail
 refine (has_no h k hk).mono ?_
 rintro e w1 ⟨rfl,rfl⟩
 go_wp2
 go_ret
 exact ⟨rfl,rfl⟩
theorem write_short (h:Dev w b D F) (ho:D.on=true) (k:Nat) (hk:k < D.bk.length) {v:Value} {l:Bytes} (hv:Bs w v l) (hl:l.length≠512):Calls Tryz.prog 71 #[ptr b, .int .i64 (k:Int),v] w fun e w'=>e = .returned (err 1)∧w=w':=by
 obtain ⟨a,c,rfl,_⟩:=hv.shape
 have hq:(((l.length:Int)) != 512)=true:=by rw [bne_iff_ne]; omega
 have HO:=Lib.hid ho
 clear ho hl hv
 go_enter Tryz.func71,Tryz.ntmps71
 go_wp2_with fail
 refine (ready_on h HO.out).mono ?_
 rintro e w1 ⟨rfl,rfl⟩
 go_wp2_with fail
 refine (has_yes h k hk).mono ?_
 rintro e w1 ⟨rfl,rfl⟩
 go_wp2
 go_ret
 exact ⟨rfl,rfl⟩
theorem write_dies (h:Dev w b D F) (ho:D.on=true) (hz:D.left=0) (k:Nat) (hk:k < D.bk.length) {v:Value} {l:Bytes} (hv:Bs w v l) (hl:l.length=512) :
  Calls Tryz.prog 71 #[ptr b, .int .i64 (k:Int),v] w fun e w'=>e = .returned (err 8)∧Dev w' b ⟨D.bk,false,D.left⟩ F∧Only (· = b) w w':=by
 obtain ⟨a,c,rfl,_⟩:=hv.shape
 rw [hl]
 have HO:=Lib.hid (anZ ho hz)
 clear ho hl hv hz
 go_enter Tryz.func71,Tryz.ntmps71
 go_wp2_with fail
 refine (ready_on h HO.out.1).mono ?_
 rintro e w1 ⟨rfl,rfl⟩
 go_wp2_with fail
 refine (has_yes h k hk).mono ?_
 rintro e w1 ⟨rfl,rfl⟩
 go_wp2_with fail
 refine (spend_dies h HO.out.2).mono ?_
 rintro e w1 ⟨rfl,hh⟩
 go_wp2
 go_ret
 exact ⟨rfl,hh.dev h rfl⟩
set_option maxRecDepth 100000 in
set_option maxHeartbeats 1000000 in
theorem write_ok (h:Dev w b D F) (ho:D.on=true) (hz:D.left≠0) {k:Nat} {x:Bk} (hx:D.bk[k]? = some x) (hs:x.loose.length < 4294967296) {v:Value} {l:Bytes} (hv:Bs w v l) (hl:l.length=512)
  (hoff:∀ q,v.ownBlock=some q→¬ F q) :
  Calls Tryz.prog 71 #[ptr b, .int .i64 (k:Int),v] w fun e w'=>e = .returned (err 0)∧Dev w' b ⟨wrote D.bk k l,D.on,spent D.left⟩ (Grow F w w')∧Only F w w':=by
 have hk:=(List.getElem?_eq_some_iff.1 hx).1
 obtain ⟨a,c,rfl,hb⟩:=hv.shape
 have hlen:(Value.slice a l.length c) = .slice a 512 c:=by rw [hl]
 rw [hlen] at hb hoff ⊢
 have HO:=Lib.hid (anZ ho (anZ hz (anZ hx hl)))
 clear ho hl hv hz hx hlen
 have h0:=h
 obtain ⟨sb,mb,sv,lv,Dm,h⟩:=h
 go_enter Tryz.func71,Tryz.ntmps71
 go_wp2_with fail
 refine (ready_on h0 HO.out.1).mono ?_
 rintro e w1 ⟨rfl,rfl⟩
 go_wp2_with fail
 refine (has_yes h0 k hk).mono ?_
 rintro e w1 ⟨rfl,rfl⟩
 go_wp2_with fail
 refine (spend_goes h0 HO.out.2.1).mono ?_
 rintro e w1 ⟨rfl,hh⟩
 obtain ⟨h1,o1⟩:=hh sb mb sv lv Dm D rfl h
 clear hh
 go_wp2_with fail
 have hb1:Bs w1 (.slice a 512 c) l:=hb.only o1 (fun q hq e=>hoff q hq (e ▸ h.fb))
 have HC:=Lib.hid (fun (W:World) (hW:Keeps2 b mb w1 W)=>(World.cell?_of_block (w:=w1) (a:=⟨b,1,none⟩) hW.1).trans h1.cells.2.1)
 have HK:=Lib.hid (fun (W:World) (hW:Keeps2 b mb w1 W)=>look_own (ownsMap_kept' h1.map hW.2) (k:=k) (by have:=h1.few; simp at this; omega) (h1.keys k x HO.out.2.2.1).2)
 refine region_till 15 (Keeps2 b mb w1) (by kernel_rfl) ⟨rfl,rfl⟩ (fun hS=>?_)
 refine tkZ (i:=0) 28 (ptr b) rfl rfl (by kernel_rfl) (fun _ _ _ h=>h) (by rfl) (fun W hW=>?_) hS ?_
 ·have hc:=HC.out W hW
  have hk:=HK.out W hW
  clear hW
  go_simp
 simp only [Act.put,sAZ,sBZ,sCZ]
 refine tkZ (i:=1) 29 (ptr b) rfl rfl (by kernel_rfl) (fun _ _ _ h=>h) (by rfl) (fun W hW=>?_) hS ?_
 ·have hc:=HC.out W hW
  have hk:=HK.out W hW
  clear hW
  go_simp
 simp only [Act.put,sAZ,sBZ,sCZ]
 refine tkZ (i:=2) 30 (.pointer (some ⟨b,1,none⟩)) rfl rfl (by kernel_rfl) (fun _ _ _ h=>h) (by rfl) (fun W hW=>?_) hS ?_
 ·have hc:=HC.out W hW
  have hk:=HK.out W hW
  clear hW
  go_simp
 simp only [Act.put,sAZ,sBZ,sCZ]
 refine tkZ (i:=3) 31 (.map (some mb)) rfl rfl (by kernel_rfl) (fun _ _ _ h=>h) (by rfl) (fun W hW=>?_) hS ?_
 ·have hc:=HC.out W hW
  have hk:=HK.out W hW
  clear hW
  go_simp
 simp only [Act.put,sAZ,sBZ,sCZ]
 refine tkZ (i:=4) 32 (.int .i64 (k:Int)) rfl rfl (by kernel_rfl) (fun _ _ _ h=>h) (by rfl) (fun W hW=>?_) hS ?_
 ·have hc:=HC.out W hW
  have hk:=HK.out W hW
  clear hW
  go_simp
 simp only [Act.put,sAZ,sBZ,sCZ]
 refine tkZ (i:=5) 33 (ptr b) rfl rfl (by kernel_rfl) (fun _ _ _ h=>h) (by rfl) (fun W hW=>?_) hS ?_
 ·have hc:=HC.out W hW
  have hk:=HK.out W hW
  clear hW
  go_simp
 simp only [Act.put,sAZ,sBZ,sCZ]
 refine tkZ (i:=6) 34 (ptr b) rfl rfl (by kernel_rfl) (fun _ _ _ h=>h) (by rfl) (fun W hW=>?_) hS ?_
 ·have hc:=HC.out W hW
  have hk:=HK.out W hW
  clear hW
  go_simp
 simp only [Act.put,sAZ,sBZ,sCZ]
 refine tkZ (i:=7) 35 (.pointer (some ⟨b,1,none⟩)) rfl rfl (by kernel_rfl) (fun _ _ _ h=>h) (by rfl) (fun W hW=>?_) hS ?_
 ·have hc:=HC.out W hW
  have hk:=HK.out W hW
  clear hW
  go_simp
 simp only [Act.put,sAZ,sBZ,sCZ]
 refine tkZ (i:=8) 36 (.map (some mb)) rfl rfl (by kernel_rfl) (fun _ _ _ h=>h) (by rfl) (fun W hW=>?_) hS ?_
 ·have hc:=HC.out W hW
  have hk:=HK.out W hW
  clear hW
  go_simp
 simp only [Act.put,sAZ,sBZ,sCZ]
 refine tkZ (i:=9) 37 (.int .i64 (k:Int)) rfl rfl (by kernel_rfl) (fun _ _ _ h=>h) (by rfl) (fun W hW=>?_) hS ?_
 ·have hc:=HC.out W hW
  have hk:=HK.out W hW
  clear hW
  go_simp
 simp only [Act.put,sAZ,sBZ,sCZ]
 refine tkZ (i:=10) 38 (lv k) rfl rfl (by kernel_rfl) (fun _ _ _ h=>h) (by rfl) (fun W hW=>?_) hS ?_
 ·have hc:=HC.out W hW
  have hk:=HK.out W hW
  clear hW
  go_simp
 simp only [Act.put,sAZ,sBZ,sCZ]
 refine tkZ (i:=11) 39 (.slice a 512 c) rfl rfl (by kernel_rfl) (fun _ _ _ h=>h) (by rfl) (fun W hW=>?_) hS ?_
 ·have hc:=HC.out W hW
  have hk:=HK.out W hW
  clear hW
  go_simp
 simp only [Act.put,sAZ,sBZ,sCZ]
 refine next_till 12 (by kernel_rfl) rfl (fun K hK=>?_)
 go_simp
 refine (newBlock_any _ (hb1.drewN 1) (by have:=HO.out.2.2.2; omega)).mono ?_
 rintro e w2 ⟨g,rfl,hc,hg,hbl⟩
 have hb2:Below w1.heap.size w1 w2:=⟨hbl.os,hbl.tape,hbl.output,hbl.size,hbl.block⟩
 rw [padded_full HO.out.2.2.2] at hc
 clear hS hbl
 have hk2:∀ W,Below w1.heap.size w1 W→Keeps2 b mb w1 W:=fun W hW=>⟨hW.block b (h1.fl _ h1.fb),hW.block mb (h1.fl _ h1.fm)⟩
 refine hK.out _ _ (fun _=>hk2 w2 hb2) ?_
 clear hK K
 obtain ⟨v',w4,w5,hrun4,hrun5,hdev,honly,hk4⟩:=h1.puts (x:=x) HO.out.2.2.1 hs hc HO.out.2.2.2 hg hb2
 have hb3:Below w1.heap.size w1 (w2.alloc (.cells #[.slice (some ⟨g,0,none⟩) 512 512] 24)):=hb2.alloc hb2.size _
 refine next_till 13 (by kernel_rfl) rfl (fun K hK=>?_)
 go_simp
 refine hK.out _ _ (fun _=>hk2 _ hb3) ?_
 clear hK K
 refine next_till 14 (by kernel_rfl) rfl (fun K hK=>?_)
 rw [if_pos (by rfl)]
 refine wp_append_run (.tmp 38) (.tmp 41) 69 rfl rfl rfl hrun4 ?_
 refine hK.out _ _ (fun _=>hk4) ?_
 simp only [Act.put,List.setIfInBounds_toArray]
 clear hK K
 refine next_till 15 (by kernel_rfl) rfl (fun K hK=>?_)
 go_simp
 refine hK.out _ _ (fun e=>absurd rfl e) ?_
 clear hK K
 refine done_till (by kernel_rfl) ?_ _
 go_wp2
 go_ret
 have hz:=o1.size
 have hz5:=honly.size
 refine ⟨rfl,hdev.widen (fun q hq=>hq.imp id fun hq=>⟨by omega,hq.2⟩) (fun q hq=>?_),(o1.mono (fun q _ e=>e ▸ h.fb)).trans honly⟩
 rcases hq with hq | hq
 ·have:=h1.fl q hq
  omega
 ·exact hq.2
end
end Go.Proofs.YtgkofgifoiinkaaGreat
namespace Go.Proofs.YtgkofgifoiinkaaGreat
open Go.RowKit Go.Maps Go.Sort Go.Shelf
attribute [local go_sem] Oper.semAt_some
def KeepCells (B:Nat) (W W':World):Prop:=W.heap.size≤W'.heap.size∧∀ q cs t fr,B≤q→W.heap[q]? = some (.cells cs t fr)→W'.heap[q]? = some (.cells cs t fr)
theorem KeepCells.refl (B:Nat) (W:World):KeepCells B W W:=⟨Nat.le_refl _,fun _ _ _ _ _ h=>h⟩
theorem KeepCells.trans {B:Nat} {X Y Z:World} (h:KeepCells B X Y) (k:KeepCells B Y Z):KeepCells B X Z:=⟨Nat.le_trans h.1 k.1,fun q cs t fr hq hc=>k.2 q cs t fr hq (h.2 q cs t fr hq hc)⟩
theorem owns_slice {w:World} {base n:Nat} {e:TypeId} {v:Value} {xs:List Value} (h:w.ownsRow base e 1 v n xs):∃ a cap,v = .slice a n cap∧n≤9223372036854775807∧∀ (i:Nat) (u:Value),xs[i]? = some u→∃ (g:Nat) (cs:Array Value) (t:TypeId),a=some ⟨g,0,none⟩∧base≤g∧w.heap[g]? = some (.cells cs t (0,0))∧cs[i]? = some u:=by
 rcases h.2 with ⟨rfl,rfl⟩ | ⟨g,cap,cur,rfl,hb,hg,hn,hm,hs,ht⟩
 ·refine ⟨none,0,rfl,by omega,fun i u hi=>?_⟩
  have:=h.1
  have:=(List.getElem?_eq_some_iff.1 hi).1
  omega
 ·refine ⟨_,cap,rfl,by unfold maxLen at hm; omega,fun i u hi=>⟨g,cur,e,rfl,hb,hg,?_⟩⟩
  rw [← ht] at hi
  have hlt:=(List.getElem?_eq_some_iff.1 hi).1
  rw [List.getElem?_take_of_lt (by simp at hlt; omega)] at hi
  simpa using hi
set_option maxRecDepth 100000 in
set_option maxHeartbeats 2000000 in
theorem rising_in (n:Nat) (hn:6≤n) {l b sb mb B:Nat} {sv:List Value} {lv:Nat→Value} {Dm:DataW Value} {D:Dv} {F:Nat→Prop} {J:Nat→World→Prop} {w:World} (h:DevAt w b sb mb sv lv Dm D F) (hB:B≤w.heap.size)
  (hst:∀ W,Below w.heap.size w W→J 0 W) (hJ:∀ i W,J i W→W.heap[b]? = w.heap[b]? ∧ W.heap[mb]? = w.heap[mb]?)
  (hY:∀ i k W,J i W→(loosen D.bk)[i]? = some k→YieldAt Fence.wide (n-1) Tryz.prog l #[.int .i64 (k:Int),lv k] W fun e W'=>e = .returned (.bool true)∧J (i+1) W'∧KeepCells B W W') :
  CallsIn Fence.wide n Tryz.prog 89 #[ptr b, .func (.yield l) #[] #[]] w fun e W'=>(∃ v,e = .returned v)∧J (loosen D.bk).length W':=by
 have c1:=h.cells.2.1
 have hsz:=keys_few h
 have cK:=fun mb W=>keys_call (n-1) mb W
 have cS:=sorted_call (n-1) (by omega) mb 4096 Dm w h.map (by unfold maxLen; omega) (by omega)
 have hfK:Fence.wide.fn 113:=trivial
 have hfS:Fence.wide.fn 112:=trivial
 have h1n:1≤n:=by omega
 refine callsIn_of_wp Tryz.func89 rfl trivial ?_ rfl
 simp only [Tryz.ntmps89,List.size_toArray,List.length_cons,List.length_nil,Nat.reduceAdd,Nat.reduceSub,Array.replicate_succ,Array.replicate_zero,List.push_toArray,List.append_toArray,List.nil_append,List.cons_append]
 gi_wp2_with (first
  | (gi_at_call 113; refine (cK _ _).mono ?_; rintro e w' ⟨rfl,rfl⟩)
  | (gi_at_call 112; refine cS.mono ?_; rintro e w' ⟨v,ss,rfl,hS,hrow,hnil,hb⟩; obtain ⟨a,cap,rfl,hmax,hcells⟩:=owns_slice hrow; clear hrow hnil))
 clear cK cS
 rw [sorted_is h hS,List.map_map] at hcells
 have hlen:ss.length=(loosen D.bk).length:=by
  have:=congrArg List.length (sorted_is h hS)
  simpa using this
 rw [hlen] at hmax ⊢
 have hbw:RowKit.Below w.heap.size w w':=((Below.refl _ _).alloc (Nat.le_refl _) _).trans (hb.mono (by omega))
 have hJ0:=hst w' hbw
 clear hS hlen hb
 have HJ:=Lib.hid hJ
 have HY:=Lib.hid hY
 have HC:=Lib.hid hcells
 have H:=Lib.hid h
 have HM:=Lib.hid (fun (W:World) (hW:W.heap[b]? = w.heap[b]? ∧ W.heap[mb]? = w.heap[mb]?)=>ownsMap_kept' h.map hW.2)
 have HL:=Lib.hid (fun (k:Nat) (hk:k∈loosen D.bk)=>(mem_loosen.1 hk).1)
 have hfew:=h.few
 clear hst hJ hY hcells h c1 hsz hbw
 by_cases hpos:0 < (loosen D.bk).length
 ·obtain ⟨g,cs,t,rfl,hg,hcs,hc0⟩:=HC.out 0 _ (by rw [List.getElem?_map,List.getElem?_eq_getElem hpos]; rfl)
  have HC':Hid (∀ (i k:Nat),(loosen D.bk)[i]? = some k→cs[i]? = some (.int .i64 (k:Int))):=Lib.hid (fun i k hk=>by
   obtain ⟨g',cs',t',e1,_,e3,e4⟩:=HC.out i (.int .i64 (k:Int)) (by rw [List.getElem?_map,hk]; rfl)
   cases e1
   rw [hcs] at e3
   cases e3
   exact e4)
  have HG:=Lib.hid hcs
  clear HC hc0 hcs
  gi_loopw [13] (fun i wr=>∃ r:Nat,r≤(loosen D.bk).length∧i = .int .i64 r∧J r wr∧KeepCells B w' wr) (fun i _=>(loosen D.bk).length-(Go.RowKit.intOf i).toNat)
  case atStart=>exact ⟨0,Nat.zero_le _,rfl,hJ0,KeepCells.refl _ _⟩
  case round =>
   obtain ⟨r,hr,rfl,hJr,hKr⟩:=hrel
   by_cases hlt:r < (loosen D.bk).length
   ·obtain ⟨k,hk⟩:∃ k,(loosen D.bk)[r]? = some k:=⟨_,List.getElem?_eq_getElem hlt⟩
    have hkl:=HL.out k (List.mem_of_getElem? hk)
    obtain ⟨x,hx⟩:∃ x,D.bk[k]? = some x:=⟨_,List.getElem?_eq_getElem hkl⟩
    have hj:=HJ.out r wr hJr
    have hgw:=hKr.2 g cs t (0,0) (by omega) HG.out
    have hcell:wr.cell? ⟨g,r,none⟩=some (.int .i64 (k:Int)):=by simp [World.cell?,hgw,HC'.out r k hk]
    have hc1:wr.cell? ⟨b,1,none⟩=some (.map (some mb)):=(World.cell?_of_block (w:=w) (a:=⟨b,1,none⟩) hj.1).trans H.out.cells.2.1
    have hlook:=look_own (HM.out wr hj) (k:=k) (by omega) (H.out.keys k x hx).2
    obtain ⟨fn,tmps,assign,body,hy,hR⟩:=HY.out r k wr hJr hk
    have H2:=Lib.hid hJr
    have H3:=Lib.hid hKr
    have H4:=Lib.hid hR
    clear hk hx hj hgw hJr hKr hR
    gi_wp2
    refine H4.out.mono ?_
    rintro e W3 ⟨rfl,hJ3,hk3⟩
    have H5:=Lib.hid (anZ hJ3 hk3)
    clear hJ3 hk3
    gi_wp2
    go_roundw
    case rel=>exact ⟨r+1,by omega,by go_num,H5.out.1,H3.out.trans H5.out.2⟩
    case measure=>simp [Go.RowKit.intOf]; omega
   ·obtain rfl:r=(loosen D.bk).length:=by omega
    have H2:=Lib.hid hJr
    clear hJr hKr
    gi_wp2
    go_end0
    exact ⟨⟨_,rfl⟩,H2.out⟩
 ·have hz:(loosen D.bk).length=0:=by omega
  have H0:=Lib.hid hJ0
  clear HC hJ0
  rw [hz] at hpos hmax ⊢
  gi_loopw [13] (fun i wr=>i = .int .i64 (0:Int)∧wr=w') (fun i _=>(Go.RowKit.intOf i).toNat)
  case atStart=>exact ⟨rfl,rfl⟩
  case round =>
   obtain ⟨rfl,rfl⟩:=hrel
   gi_wp2
   go_end0
   exact ⟨⟨_,rfl⟩,by rw [hz]; exact H0.out⟩
end Go.Proofs.YtgkofgifoiinkaaGreat
namespace Go.Proofs.YtgkofgifoiinkaaGreat
open Go.RowKit
def GoesOn (R:World→Prop):Exit→Act→World→Prop
 | .normal,_,w=>R w
 | _,_,_=>False
theorem yield_goes {n l D fn:Nat} {P:Program} {tmps:Array Value} {ps:Array Tmp} {assign body:Code} {W:World} {args:Array Value} {R:World→Prop} {rec:LoopState→Option Code→Loop}
  (hrec:rec=fun st pe=>{ state:=st,pending:=pe,fn,tmps,params:=ps,assign,body,defers:=D })
  (hl:W.heap[l]? = some (.loop (rec .ready none))) (hs:args.size=ps.size) {a₁:Act}
  (ha:∀ K:Act→World→Prop,K a₁ W→assign.wpIn (Fence.wide.inRound l) n P (Exit.then K (fun _ _ _=>False)) { tmps:=(ps.zip args).foldl (fun t (p,v)=>t.setIfInBounds p v) tmps,defers:=[] } W)
  (hb:body.wpIn (Fence.wide.inRound l) n P (GoesOn fun W'=>W'.heap[l]? = some (.loop (rec .busy none))∧R (W'.putObj l (.loop (rec .ready none)))) a₁ (W.putObj l (.loop (rec .busy none)))) :
  YieldAt Fence.wide n P l args W fun e W'=>e = .returned (.bool true)∧R W':=by
 have hy:=run_yield (P:=P) (args:=args) hl (by rw [hrec]; exact hs)
 rw [hrec] at hy
 refine ⟨fn,_,assign,body,hy,roundIn_of_wpIn trivial (ha _ ⟨_,run_beginRound hl (by rw [hrec]),?_⟩)⟩
 have e1:({ rec .ready none with state:=.busy }:Loop)=rec .busy none:=by rw [hrec]
 rw [e1]
 refine wpIn_mono hb ?_
 rintro e a3 W3 hp
 cases e with
 | normal =>
  obtain ⟨hl3,hR⟩:=hp
  have:=run_endRound (P:=P) none hl3
  have e2:({ rec .busy none with state:=if (none:Option Code).isNone then .ready else .done,pending:=none }:Loop)=rec .ready none:=by rw [hrec]; rfl
  rw [e2] at this
  exact ⟨_,_,this,rfl,hR⟩
 | ret=>exact hp.elim
 | exit id=>exact hp.elim
 | goto t=>exact hp.elim
 | panic ch=>exact hp.elim
 | outgrown=>exact hp.elim
theorem range_method {n:Nat} {P:Program} {g:Operand} {ps:Array Tmp} {assign body:Code} {Q:Exit→Act→World→Prop} {a:Act} {w:World} (h1:1≤n) {gf:Nat} {rv:Value} (hg:a.eval g = .func (.func gf) #[rv] #[])
  (eg:∀ args w,(callFunc gf args).run P w = .ok (.enter gf args) w)
  (h:∀ (fn:Nat) (rec:LoopState→Option Code→Loop) (W1:World),rec=(fun st pe=>{ state:=st,pending:=pe,fn,tmps:=a.tmps,params:=ps,assign,body,defers:=w.heap.size }) →
   W1=(w.alloc (.deferred (some []))).alloc (.loop (rec .ready none)) →
   CallsIn Fence.wide (n-1) P gf #[rv, .func (.yield (w.heap.size+1)) #[] #[]] W1 fun e W2=>(∃ v,e = .returned v)∧W2.heap[w.heap.size+1]? = some (.loop (rec .ready none)) ∧
    Q .normal { a with defers:={ target:=.collected w.heap.size,args := #[] }::a.defers } (W2.putObj (w.heap.size+1) (.loop (rec .exhausted none)))) :
  (Code.rangeFunc g ps assign body).wpIn Fence.wide n P Q a w:=by
 refine wpIn_rangeFunc ?_
 intro fn hfn
 obtain ⟨rec,hrec⟩:∃ rec:LoopState→Option Code→Loop,rec=fun st pe=>{ state:=st,pending:=pe,fn,tmps:=a.tmps,params:=ps,assign,body,defers:=w.heap.size }:=⟨_,rfl⟩
 obtain ⟨W1,hW1⟩:∃ W1,W1=(w.alloc (.deferred (some []))).alloc (.loop (rec .ready none)):=⟨_,rfl⟩
 refine ⟨w.heap.size+1,[{ target:=.collected w.heap.size,args := #[] }],W1, { target:=.fn (.func gf) #[],args := #[rv, .func (.yield (w.heap.size+1)) #[] #[]] },W1,gf,
  #[rv, .func (.yield (w.heap.size+1)) #[] #[]],W1,?_,?_,?_,?_,fun _=>h1,?_⟩
 ·rw [hW1,hrec]; exact run_enterLoop_outer _ _ _ _ _
 ·simp only [resolve,hg]
  simp [go_sem]
 ·intro f' _; trivial
 ·simp [invoke,go_sem,eg]
 ·refine (h fn rec W1 hrec hW1).mono ?_
  rintro e W2 ⟨⟨v,rfl⟩,hl,hQ⟩
  have:=run_endLoop (P:=P) hl (by rw [hrec]; simp)
  have e2:({ rec .ready none with state:=.exhausted }:Loop)=rec .exhausted none:=by rw [hrec]
  rw [e2] at this
  refine ⟨none,_,?_,hQ⟩
  rw [this,hrec]
end Go.Proofs.YtgkofgifoiinkaaGreat
