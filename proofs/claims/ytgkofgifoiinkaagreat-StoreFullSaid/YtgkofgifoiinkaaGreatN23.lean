/- A range over a function's value whose rounds go on, or leave by a return; a call whose frame bears marks, walked as any other; no condition · The pieces of a string, gone through by a function that is ranged over; no condition. -/
import Derived.Test.YtgkofgifoiinkaaGreatN01
import Derived.RangeFuncNested
import Derived.RangeFuncBound
import Derived.RangeFuncCalls
import Derived.RangeFuncLeaves
import Derived.OwnWalkIn
import Derived.TacticsInMore
import Derived.LoopNIn
import Derived.LoopIn
import Derived.Test.YtgkofgifoiinkaaGreatN22
namespace Go.Proofs.YtgkofgifoiinkaaGreat
open Go.RowKit
def GoesOr (R Rx:World→Prop):Exit→Act→World→Prop
 | .normal,_,w=>R w
 | .ret,_,w=>Rx w
 | _,_,_=>False
theorem GoesOr.let {R Rx:World→Prop}:¬ LetsOut (GoesOr R Rx):=by
 rintro ⟨a,w,h⟩
 exact h
theorem yield_two {n l D fn:Nat} {P:Program} {tmps:Array Value} {ps:Array Tmp} {assign body:Code} {W:World} {args:Array Value} {R Rx:World→Prop} {rec:LoopState→Option Code→Loop}
  (hrec:rec=fun st pe=>{ state:=st,pending:=pe,fn,tmps:=tmps,params:=ps,assign,body,defers:=D })
  (hl:W.heap[l]? = some (.loop (rec .ready none))) (hs:args.size=ps.size) {a₁:Act}
  (ha:∀ K:Act→World→Prop,K a₁ W→assign.wpIn (Fence.wide.inRound l) n P (Exit.then K (fun _ _ _=>False)) { tmps:=(ps.zip args).foldl (fun t (p,v)=>t.setIfInBounds p v) tmps,defers:=[] } W)
  (hb:body.wpIn (Fence.wide.inRound l) n P (GoesOr (fun W'=>W'.heap[l]? = some (.loop (rec .busy none))∧R (W'.putObj l (.loop (rec .ready none)))) (fun W'=>W'.heap[l]? = some (.loop (rec .busy none))∧Rx (W'.putObj l (.loop (rec .done (some .ret))))))
   a₁ (W.putObj l (.loop (rec .busy none)))) :
  YieldAt Fence.wide n P l args W fun e W'=>(e = .returned (.bool true)∧R W')∨(e = .returned (.bool false)∧Rx W'):=by
 have hy:=run_yield (P:=P) (args:=args) hl (by rw [hrec]; exact hs)
 rw [hrec] at hy
 refine ⟨fn,_,assign,body,hy,roundIn_of_wpIn trivial (ha _ ⟨_,run_beginRound hl (by rw [hrec]),?_⟩)⟩
 have e1:({ rec .ready none with state:=.busy }:Loop)=rec .busy none:=by rw [hrec]
 rw [e1]
 refine wpIn_mono hb ?_
 rintro e a3 W3 hp
 cases e with
 | normal =>
  obtain ⟨hl3,hR⟩:=hp
  have:=run_endRound (P:=P) none hl3
  have e2:({ rec .busy none with state:=if (none:Option Code).isNone then .ready else .done,pending:=none }:Loop)=rec .ready none:=by rw [hrec]; rfl
  rw [e2] at this
  exact ⟨_,_,this, .inl ⟨rfl,hR⟩⟩
 | ret =>
  obtain ⟨hl3,hR⟩:=hp
  have:=run_endRound (P:=P) (some .ret) hl3
  have e2:({ rec .busy none with state:=if (some Code.ret).isNone then .ready else .done,pending:=some .ret }:Loop)=rec .done (some .ret):=by rw [hrec]; rfl
  rw [e2] at this
  exact ⟨_,_,this, .inr ⟨rfl,hR⟩⟩
 | exit id=>exact hp.elim
 | goto t=>exact hp.elim
 | panic ch=>exact hp.elim
 | outgrown=>exact hp.elim
theorem range_two {n:Nat} {P:Program} {g:Operand} {ps:Array Tmp} {assign body:Code} {Q:Exit→Act→World→Prop} {a:Act} {w:World} (h1:1≤n) {gf:Nat} {lb:Array Value} (hg:a.eval g = .func (.func gf) #[] lb)
  (eg:∀ args w,(callFunc gf args).run P w = .ok (.enter gf args) w)
  (h:∀ (fn:Nat) (rec:LoopState→Option Code→Loop) (W1:World),rec=(fun st pe=>{ state:=st,pending:=pe,fn,tmps:=a.tmps,params:=ps,assign,body,defers:=w.heap.size }) →
   W1=(w.alloc (.deferred (some []))).alloc (.loop (rec .ready none)) →
   CallsIn Fence.wide (n-1) P gf (#[.func (.yield (w.heap.size+1)) #[] #[]]++lb) W1 fun e W2=>(∃ v,e = .returned v) ∧
    ((W2.heap[w.heap.size+1]? = some (.loop (rec .ready none))∧Q .normal { a with defers:={ target:=.collected w.heap.size,args := #[] }::a.defers } (W2.putObj (w.heap.size+1) (.loop (rec .exhausted none)))) ∨
    (W2.heap[w.heap.size+1]? = some (.loop (rec .done (some .ret)))∧Code.ret.wp P Q { a with defers:={ target:=.collected w.heap.size,args := #[] }::a.defers } (W2.putObj (w.heap.size+1) (.loop (rec .exhausted (some .ret))))))) :
  (Code.rangeFunc g ps assign body).wp P Q a w:=by
 refine (wpIn_wide (n:=n)).1 ?_
 refine wpIn_rangeFunc ?_
 intro fn hfn
 obtain ⟨rec,hrec⟩:∃ rec:LoopState→Option Code→Loop,rec=fun st pe=>{ state:=st,pending:=pe,fn,tmps:=a.tmps,params:=ps,assign,body,defers:=w.heap.size }:=⟨_,rfl⟩
 obtain ⟨W1,hW1⟩:∃ W1,W1=(w.alloc (.deferred (some []))).alloc (.loop (rec .ready none)):=⟨_,rfl⟩
 refine ⟨w.heap.size+1,[{ target:=.collected w.heap.size,args := #[] }],W1, { target:=.fn (.func gf) lb,args := #[.func (.yield (w.heap.size+1)) #[] #[]] },W1,gf,
  #[.func (.yield (w.heap.size+1)) #[] #[]]++lb,W1,?_,?_,?_,?_,fun _=>h1,?_⟩
 ·rw [hW1,hrec]; exact run_enterLoop_outer _ _ _ _ _
 ·simp only [resolve,hg]
  simp [go_sem]
 ·intro f' _; trivial
 ·simp [invoke,go_sem,eg]
 ·refine (h fn rec W1 hrec hW1).mono ?_
  rintro e W2 ⟨⟨v,rfl⟩,⟨hl,hQ⟩ | ⟨hl,hQ⟩⟩
  ·have:=run_endLoop (P:=P) hl (by rw [hrec]; simp)
   have e2:({ rec .ready none with state:=.exhausted }:Loop)=rec .exhausted none:=by rw [hrec]
   rw [e2] at this
   refine ⟨none,_,?_,hQ⟩
   rw [this,hrec]
  ·have:=run_endLoop (P:=P) hl (by rw [hrec]; simp)
   have e2:({ rec .done (some .ret) with state:=.exhausted }:Loop)=rec .exhausted (some .ret):=by rw [hrec]
   rw [e2] at this
   refine ⟨some .ret,_,?_,wpIn_wide.2 hQ⟩
   rw [this,hrec]
theorem calls_of_wp_marks {P:Program} {f:FuncId} {fn:Func} {c:Code} {args:Array Value} {w:World} {R:Ending→World→Prop} (n:Nat) (hf:P.funcs[f]? = some fn) (hb:fn.body=some c)
  (h:c.wp P (bodyPostM Fence.wide n P fn R) { tmps:=args++Array.replicate (fn.ntmps-args.size) undef,defers:=[] } w):Calls P f args w R :=
 (callsIn_wide (n:=n)).1 (callsIn_of_wp_marks hf hb trivial (wpIn_wide.2 h) rfl)
def Onward (Q:Exit→Act→World→Prop):Exit→Act→World→Prop
 | .normal,a,w=>Q .normal a w
 | _,_,_=>False
theorem wp_onward {P:Program} {c:Code} {Q:Exit→Act→World→Prop} {a:Act} {w:World} (h:c.wp P (Onward Q) a w):c.wp P Q a w:=by
 refine (wpIn_wide (n:=0)).1 (wpIn_mono ((wpIn_wide (n:=0)).2 h) ?_)
 intro e a w hh
 cases e with
 | normal=>exact hh
 | _=>exact hh.elim
open Go.RowKit
attribute [local go_sem] Oper.semAt_some
theorem pieces_any (a:Option Addr) (k c:Nat) (w:World):Calls Tryz.prog 110 #[.slice a k c] w fun e w'=>e = .returned (.func (.func 139) #[] #[.pointer (some ⟨w.heap.size,0,none⟩)])∧w'=w.alloc (.cells #[.slice a k c] 24):=by
 go_enter Tryz.func110,Tryz.ntmps110
 go_wp2
 go_ret
 exact ⟨rfl,rfl⟩
def Tail (v:Value) (l:Bytes) (m:Nat) (x:Value):Prop:=∃ a c,x = .slice a (l.length-m) c∧(∀ W,Bs W v l→Bs W (.slice a (l.length-m) c) (l.drop m))∧∀ q,(Value.slice a (l.length-m) c).ownBlock=some q→v.ownBlock=some q
theorem Tail.start {w:World} {v:Value} {l:Bytes} (h:Bs w v l):Tail v l 0 v:=by
 obtain ⟨a,c,rfl,_⟩:=h.shape
 exact ⟨a,c,rfl,fun W hW=>by simpa using hW,fun q hq=>hq⟩
def lenV:Value→Nat
 | .slice _ n _=>n
 | _=>0
set_option maxHeartbeats 1000000 in
theorem pieces1_in (n:Nat) (hn:1≤n) (l Bn:Nat) {v:Value} {bl:Bytes} (J:Nat→World→Prop) (Jx:World→Prop) (hJ:∀ k W,J k W→Bs W v bl)
  (hY:∀ k x W,J k W→k < nPieces bl.length→Bs W x (pieceAt bl k)→YieldAt Fence.wide (n-1) Tryz.prog l #[x] W fun e W'=>(e = .returned (.bool true)∧J (k+1) W')∨(e = .returned (.bool false)∧Jx W'))
  (W:World) (hBn:W.cell? ⟨Bn,0,none⟩=some v) (h0:J 0 W) :
  CallsIn Fence.wide n Tryz.prog 139 #[.func (.yield l) #[] #[], .pointer (some ⟨Bn,0,none⟩)] W fun e W'=>(∃ r,e = .returned r)∧(J (nPieces bl.length) W'∨Jx W'):=by
 have hv0:=hJ 0 W h0
 have hT0:=Tail.start hv0
 obtain ⟨va,vc,hv, -⟩:=hv0.shape
 have H0:=Lib.hid (anZ h0 (anZ hT0 hv0.len))
 rw [hv] at hBn
 have HV:=Lib.hid hv
 clear hv0 hT0 h0 hv
 refine callsIn_of_wp Tryz.func139 rfl trivial ?_
 simp only [Tryz.ntmps139,List.size_toArray,List.length_cons,List.length_nil,Nat.reduceAdd,Nat.reduceSub,Array.replicate_succ,Array.replicate_zero,List.push_toArray,List.append_toArray,List.nil_append,List.cons_append]
 gi_wp2
 gi_loopw [3] (fun p wr=>∃ k,k+1≤nPieces bl.length∧Tail v bl (480*k) p∧J k wr) (fun p _=>lenV p)
 case atStart =>
  refine ⟨0,nPieces_pos _,?_,H0.out.1⟩
  have:=H0.out.2.1
  rw [HV.out] at this ⊢
  exact this
 case round =>
  obtain ⟨k,hk,⟨a,c,rfl,hT,hO⟩,hJk⟩:=hrel
  have hb:=hT wr (hJ k wr hJk)
  have hbl:=H0.out.2.2
  by_cases hm:480*k+480 < bl.length
  ·obtain ⟨x,hx,hxb⟩:=run_slice_to_bs bt wr hb .i64 480 (by rw [List.length_drop]; omega)
   have hlt:(480:Int) < ((bl.length-480*k:Nat):Int):=by omega
   obtain ⟨fn,tmps,assign,body,hy,hR⟩:=hY k x wr hJk hk hxb
   have hr2:=run_slice_low bt (rfl:Value.slice a (bl.length-480*k) c = .slice a (bl.length-480*k) c) .i64 480 (show 480≤bl.length-480*k by omega)
   have hk1:=nPieces_end hm
   have hlen:bl.length-480*k-480=bl.length-480*(k+1):=by omega
   have hT2:Tail v bl (480*(k+1)) (sliced a 480 (bl.length-480*k) c 1):=by
    unfold sliced
    rw [hlen]
    refine ⟨_,_,rfl,fun W hW=>?_,fun q hq=>?_⟩
    ·have:=bs_from (hT W hW) 480 (by omega)
     rw [List.drop_drop,show 480*k+480=480*(k+1) by omega] at this
     unfold sliced at this
     rw [hlen] at this
     exact this
    ·have:=sliced_own a 480 (bl.length-480*k) c 1 (bl.length-480*k) c
     unfold sliced at this
     rw [hlen] at this
     rw [this] at hq
     exact hO q hq
   have HH:=Lib.hid (anZ hT2 (anZ hk1 (anZ hm hlen)))
   obtain ⟨x2,hx2⟩:∃ x2,sliced a 480 (bl.length-480*k) c 1=x2:=⟨_,rfl⟩
   have hl2:lenV x2=bl.length-480*k-480:=by rw [← hx2]; rfl
   rw [hx2] at hr2
   rw [show ((480:Nat):Int)=480 from rfl] at hx hr2
   have HX:=Lib.hid (anZ hx2 hl2)
   clear hT2 hk1 hlen hb hxb hJk hT hO hx2 hl2 hm
   gi_wp2
   refine hR.mono ?_
   rintro e W3 (⟨rfl,hJ3⟩ | ⟨rfl,hJx3⟩)
   ·gi_wp2
    go_roundw
    case rel=>exact ⟨k+1,HH.out.2.1,by rw [← HX.out.1]; exact HH.out.1,hJ3⟩
    case measure =>
     show lenV x2 < bl.length-480*k
     rw [HX.out.2]
     have:=HH.out.2.2.1
     omega
   ·gi_wp2
    refine bodyPost_ret (results_none rfl _ _ _) rfl ?_
    exact ⟨⟨_,rfl⟩, .inr hJx3⟩
  ·have hk1:k+1=nPieces bl.length:=by
    have:=nPieces_more (n:=bl.length) (k:=k)
    omega
   have hxb:Bs wr (.slice a (bl.length-480*k) c) (pieceAt bl k):=by
    unfold pieceAt
    rw [List.take_of_length_le (by rw [List.length_drop]; omega)]
    exact hb
   obtain ⟨fn,tmps,assign,body,hy,hR⟩:=hY k _ wr hJk hk hxb
   have hge:((bl.length-480*k:Nat):Int)≤480:=by omega
   have HH:=Lib.hid hk1
   clear hb hxb hJk hT hO hm hk1
   gi_wp2
   refine hR.mono ?_
   rintro e W3 (⟨rfl,hJ3⟩ | ⟨rfl,hJx3⟩)
   ·gi_wp2
    go_end0
    exact ⟨⟨_,rfl⟩, .inl (by rw [← HH.out]; exact hJ3)⟩
   ·gi_wp2
    go_end0
    exact ⟨⟨_,rfl⟩, .inr hJx3⟩
end Go.Proofs.YtgkofgifoiinkaaGreat
