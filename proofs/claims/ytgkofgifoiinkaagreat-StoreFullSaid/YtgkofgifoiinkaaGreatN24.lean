/- Append of a journal: a string more, or why not; conditions: as of write. -/
import Derived.Test.YtgkofgifoiinkaaGreatN22
import Derived.Test.YtgkofgifoiinkaaGreatN23
namespace Go.Proofs.YtgkofgifoiinkaaGreat
open Go.RowKit
attribute [local go_sem] Oper.semAt_some
structure WS (w:World) (F:Nat→Prop) (jb b:Nat) (v:Value) (r0:Loop) (D':Dv) (t':Spot) (c:Int) (W:World):Prop where
 only:Only F w W
 dev:∃ G,Dev W b D' G∧∀ q,G q→F q∨w.heap.size+6≤q
 b2:Cel W w.heap.size [ptr jb] 87
 b4:Cel W (w.heap.size+1) (spotL t') 123
 b5:Cel W (w.heap.size+2) [err c] 28
 bp:Cel W (w.heap.size+3) [v] 24
 dd:W.heap[w.heap.size+4]? = some (.deferred (some []))
 ll:W.heap[w.heap.size+5]? = some (.loop r0)
theorem WS.turn {w W:World} {F:Nat→Prop} {jb b:Nat} {v:Value} {r0:Loop} {D':Dv} {t':Spot} {c:Int} (hF:∀ q,F q→q < w.heap.size) (h:WS w F jb b v r0 D' t' c W) (r1:Loop) :
  WS w F jb b v r1 D' t' c (W.putObj (w.heap.size+5) (.loop r1)):=by
 have hl:=(Array.getElem?_eq_some_iff.1 h.ll).1
 have hk:∀ q,q≠w.heap.size+5→(W.putObj (w.heap.size+5) (.loop r1)).heap[q]? = W.heap[q]?:=fun q hq=>World.putObj_heap_other hq
 have hz:W.heap.size≤(W.putObj (w.heap.size+5) (.loop r1)).heap.size:=by simp [World.putObj]
 obtain ⟨G,hG,hG'⟩:=h.dev
 exact {
  only:=⟨h.only.os,h.only.tape,h.only.output,Nat.le_trans h.only.size hz,fun k hk' hs=>(hk k (by omega)).trans (h.only.block k hk' hs)⟩
  dev:=⟨G,hG.kept (fun q hq=>hk q (by
   rcases hG' q hq with h1 | h1
   ·have:=hF q h1; omega
   ·omega)) hz,hG'⟩
  b2:=h.b2.kept (hk _ (by omega))
  b4:=h.b4.kept (hk _ (by omega))
  b5:=h.b5.kept (hk _ (by omega))
  bp:=h.bp.kept (hk _ (by omega))
  dd:=(hk _ (by omega)).trans h.dd
  ll:=World.putObj_heap_same hl }
section
variable {w W W2:World} {F G:Nat→Prop} {jb b:Nat} {v:Value} {r0:Loop} {D' D'':Dv} {t':Spot} {c:Int}
theorem WS.step (h:WS w F jb b v r0 D' t' c W) (hG:∀ q,G q→F q∨w.heap.size+6≤q) (hF:∀ q,F q→q < w.heap.size) (hd:Dev W2 b D'' (Grow G W W2)) (ho:Only G W W2):WS w F jb b v r0 D'' t' c W2:=by
 have hz:=(Array.getElem?_eq_some_iff.1 h.ll).1
 have hk:∀ q,w.heap.size≤q→q < w.heap.size+6→W2.heap[q]? = W.heap[q]?:=fun q h1 h2=>ho.block q (by omega) fun hg=>by
  rcases hG q hg with h3 | h3
  ·have:=hF q h3; omega
  ·omega
 exact {
  only:=h.only.then ho fun q hq=>(hG q hq).imp id fun h=>by omega
  dev:=⟨_,hd,fun q hq=>by
   rcases hq with hq | hq
   ·exact hG q hq
   ·exact .inr (by omega)⟩
  b2:=h.b2.kept (hk _ (by omega) (by omega))
  b4:=h.b4.kept (hk _ (by omega) (by omega))
  b5:=h.b5.kept (hk _ (by omega) (by omega))
  bp:=h.bp.kept (hk _ (by omega) (by omega))
  dd:=(hk _ (by omega) (by omega)).trans h.dd
  ll:=(hk _ (by omega) (by omega)).trans h.ll }
theorem WS.below (h:WS w F jb b v r0 D' t' c W) (hF:∀ q,F q→q < w.heap.size) (hb:Below W.heap.size W W2):WS w F jb b v r0 D' t' c W2:=by
 obtain ⟨G,hG,hG'⟩:=h.dev
 have hz:=(Array.getElem?_eq_some_iff.1 h.ll).1
 exact h.step hG' hF ((hG.below hb).widen (fun q hq=>.inl hq) (fun q hq=>by
  rcases hq with hq | hq
  ·have:=hG.fl q hq; have:=hb.size; omega
  ·exact hq.2)) (Only.of_below hb G)
theorem WS.cell4 (h:WS w F jb b v r0 D' t' c W) (i:Nat) (u:Value) {t'':Spot} (hc:(spotL t').set i u=spotL t'') (hF:∀ q,F q→q < w.heap.size):WS w F jb b v r0 D' t'' c (W.setCell ⟨w.heap.size+1,i,none⟩ u):=by
 have hk:∀ q,q≠w.heap.size+1→(W.setCell ⟨w.heap.size+1,i,none⟩ u).heap[q]? = W.heap[q]?:=fun q hq=>Below.heap_setCell W ⟨w.heap.size+1,i,none⟩ u q hq
 obtain ⟨G,hG,hG'⟩:=h.dev
 have ho:=(Only.refl (fun q=>q=w.heap.size+1) W).setCell (p:=⟨w.heap.size+1,i,none⟩) (.inl rfl) u
 exact {
  only:=h.only.setCell (p:=⟨w.heap.size+1,i,none⟩) (.inr (by simp)) u
  dev:=⟨G,hG.other ho fun q hq e=>by
   rcases hG' q hq with h1 | h1
   ·have:=hF q h1; omega
   ·omega,hG'⟩
  b2:=h.b2.kept (hk _ (by omega))
  b4:=by
   have:=h.b4.set i u
   rw [hc] at this
   exact this
  b5:=h.b5.kept (hk _ (by omega))
  bp:=h.bp.kept (hk _ (by omega))
  dd:=(hk _ (by omega)).trans h.dd
  ll:=(hk _ (by omega)).trans h.ll }
theorem WS.cell5 (h:WS w F jb b v r0 D' t' c W) (c':Int) (hF:∀ q,F q→q < w.heap.size):WS w F jb b v r0 D' t' c' (W.setCell ⟨w.heap.size+2,0,none⟩ (err c')):=by
 have hk:∀ q,q≠w.heap.size+2→(W.setCell ⟨w.heap.size+2,0,none⟩ (err c')).heap[q]? = W.heap[q]?:=fun q hq=>Below.heap_setCell W ⟨w.heap.size+2,0,none⟩ (err c') q hq
 obtain ⟨G,hG,hG'⟩:=h.dev
 have ho:=(Only.refl (fun q=>q=w.heap.size+2) W).setCell (p:=⟨w.heap.size+2,0,none⟩) (.inl rfl) (err c')
 exact {
  only:=h.only.setCell (p:=⟨w.heap.size+2,0,none⟩) (.inr (by simp)) _
  dev:=⟨G,hG.other ho fun q hq e=>by
   rcases hG' q hq with h1 | h1
   ·have:=hF q h1; omega
   ·omega,hG'⟩
  b2:=h.b2.kept (hk _ (by omega))
  b4:=h.b4.kept (hk _ (by omega))
  b5:=h.b5.set 0 (err c')
  bp:=h.bp.kept (hk _ (by omega))
  dd:=(hk _ (by omega)).trans h.dd
  ll:=(hk _ (by omega)).trans h.ll }
theorem WS.spot (h:WS w F jb b v r0 D' t' c W) (t'':Spot) (hF:∀ q,F q→q < w.heap.size):WS w F jb b v r0 D' t'' c ((W.setCell ⟨w.heap.size+1,0,none⟩ (.int .i64 (t''.1:Int))).setCell ⟨w.heap.size+1,1,none⟩ (.int .u64 (t''.2:Int))) :=
 (h.cell4 (t'':=(t''.1,t'.2)) 0 (.int .i64 (t''.1:Int)) rfl hF).cell4 (t'':=t'') 1 (.int .u64 (t''.2:Int)) rfl hF
theorem WS.drew (h:WS w F jb b v r0 D' t' c W) (hF:∀ q,F q→q < w.heap.size):WS w F jb b v r0 D' t' c W.drew:=h.below hF ⟨rfl,rfl,rfl,Nat.le_refl _,fun _ _=>rfl⟩
theorem WS.cells (h:WS w F jb b v r0 D' t' c W):W.cell? ⟨w.heap.size,0,none⟩=some (ptr jb)∧W.cell? ⟨w.heap.size+1,0,none⟩=some (.int .i64 (t'.1:Int))∧W.cell? ⟨w.heap.size+1,1,none⟩=some (.int .u64 (t'.2:Int))∧W.cell? ⟨w.heap.size+2,0,none⟩=some (err c) ∧
  W.frozen? ⟨w.heap.size+1,0,none⟩=false∧W.frozen? ⟨w.heap.size+1,1,none⟩=false∧W.frozen? ⟨w.heap.size+2,0,none⟩=false :=
 ⟨by rw [h.b2.cell]; rfl,by rw [h.b4.cell]; rfl,by rw [h.b4.cell]; rfl,by rw [h.b5.cell]; rfl,h.b4.frozen 0,h.b4.frozen 1,h.b5.frozen 0⟩
theorem WS.ends (h:WS w F jb b v r0 D' t' c W) (hF:∀ q,F q→q < w.heap.size):Dev (W.putObj (w.heap.size+4) (.deferred none)) b D' (Grow F w (W.putObj (w.heap.size+4) (.deferred none)))∧Only F w (W.putObj (w.heap.size+4) (.deferred none)) ∧
  Cel (W.putObj (w.heap.size+4) (.deferred none)) (w.heap.size+1) (spotL t') 123∧Cel (W.putObj (w.heap.size+4) (.deferred none)) (w.heap.size+2) [err c] 28:=by
 obtain ⟨G,hG,hG'⟩:=h.dev
 have hl:=(Array.getElem?_eq_some_iff.1 h.ll).1
 have hk:∀ q,q≠w.heap.size+4→(W.putObj (w.heap.size+4) (.deferred none)).heap[q]? = W.heap[q]?:=fun q hq=>World.putObj_heap_other hq
 have hz:W.heap.size≤(W.putObj (w.heap.size+4) (.deferred none)).heap.size:=by simp [World.putObj]
 refine ⟨(hG.kept (fun q hq=>hk q ?_) hz).widen (fun q hq=>?_) (fun q hq=>?_),?_,h.b4.kept (hk _ (by omega)),h.b5.kept (hk _ (by omega))⟩
 ·rcases hG' q hq with h1 | h1
  ·have:=hF q h1; omega
  ·omega
 ·rcases hG' q hq with h1 | h1
  ·exact .inl h1
  ·exact .inr ⟨by omega,Nat.lt_of_lt_of_le (hG.fl q hq) hz⟩
 ·rcases hq with hq | hq
  ·have:=hF q hq; omega
  ·exact hq.2
 ·exact ⟨h.only.os,h.only.tape,h.only.output,Nat.le_trans h.only.size hz,fun k hk' hs=>(hk k (by omega)).trans (h.only.block k hk' hs)⟩
end
theorem putsD_stop {J:Jn}:∀ (x y:List Bytes) (D:Dv) (t:Spot),(putsD J D t x).2.2≠0→putsD J D t (x++y)=putsD J D t x
 | [],_,_,_,h=>absurd rfl h
 | b::x,y,D,t,h=>by
  rw [List.cons_append,putsD,putsD]
  rw [putsD] at h
  by_cases hc:putC J D t 1 b=0
  ·rw [if_pos hc] at h ⊢
   rw [if_pos hc]
   exact putsD_stop x y _ _ h
  ·rw [if_neg hc,if_neg hc]
theorem piecesTo_split (l:Bytes) {k m:Nat} (h:k≤m):∃ y,piecesTo l m=piecesTo l k++y:=by
 refine ⟨(piecesTo l m).drop k,?_⟩
 have:(piecesTo l m).take k=piecesTo l k:=by
  unfold piecesTo
  rw [← List.map_take,List.take_range,Nat.min_eq_left h]
 rw [← this,List.take_append_drop]
theorem putsD_more {J:Jn} {D D':Dv} {l:Bytes} {k:Nat} {t':Spot} (h:putsD J D J.spot (piecesTo l k)=(D',t',0)) :
  putsD J D J.spot (piecesTo l (k+1))=if putC J D' t' 1 (pieceAt l k)=0 then (putD J D' t' 1 (pieceAt l k),behindS t' (J.blk t' 1 (pieceAt l k)),0) else (putD J D' t' 1 (pieceAt l k),(0,0),putC J D' t' 1 (pieceAt l k)):=by
 rw [piecesTo_succ,putsD_append _ _ _ _ _ _ h]
 rfl
theorem results_cell2 {P:Program} {fn:Func} {t u:Tmp} {ty tz:TypeId} (h:fn.results = #[.cell t ty, .cell u tz]) {tmps:Array Value} {w:World} {a a2:Addr} {v v2:Value} (ha:tmps.getD t undef = .pointer (some a)) (ha2:tmps.getD u undef = .pointer (some a2))
  (hl:(loadVar ty a).run P w = .ok v w) (hl2:(loadVar tz a2).run P w = .ok v2 w):(results fn tmps).run P w = .ok (.tuple #[v,v2]) w:=by
 have ha':tmps[t]?.getD undef = .pointer (some a):=by rw [← Array.getD_eq_getD_getElem?]; exact ha
 have ha2':tmps[u]?.getD undef = .pointer (some a2):=by rw [← Array.getD_eq_getD_getElem?]; exact ha2
 simp [results,h,ha',ha2',asAddr,hl,hl2]
theorem load_err {w:World} {g:Nat} {c:Int} (h:Cel w g [err c] 28):(loadVar 28 ⟨g,0,none⟩).run Tryz.prog w = .ok (err c) w:=by
 have c0:w.cell? ⟨g,0,none⟩=some (err c):=by rw [h.cell]; rfl
 go_simp
theorem write_stop {J:Jn} {D Dk:Dv} {l:Bytes} {k:Nat} {c:Int} (hp:putsD J D J.spot (piecesTo l (k+1))=(Dk,(0,0),c)) (hc:c≠0) (hk:k < nPieces l.length):writeD J D l=(Dk,(0,0),c):=by
 obtain ⟨y,hy⟩:=piecesTo_split l (show k+1≤nPieces l.length by omega)
 have h1:putsD J D J.spot (piecesL l)=(Dk,(0,0),c):=by
  unfold piecesL
  rw [hy,putsD_stop _ _ _ _ (by rw [hp]; exact hc),hp]
 unfold writeD
 rw [h1,if_pos hc]
theorem write_close {J:Jn} {D Dm:Dv} {l:Bytes} {tm:Spot} (hp:putsD J D J.spot (piecesTo l (nPieces l.length))=(Dm,tm,0)):writeD J D l=closeD J Dm tm:=by
 have h1:putsD J D J.spot (piecesL l)=(Dm,tm,0):=hp
 unfold writeD
 rw [h1]
 rfl
open Go.RowKit
attribute [local go_sem] Oper.semAt_some
section
variable {w w':World} {jb b:Nat} {J:Jn} {D:Dv} {F:Nat→Prop}
set_option maxHeartbeats 2000000 in
theorem write_any (h:JAt w jb b J) (hJ:J.Fit) (hD:Dev w b D F) (hjb:¬ F jb) {n:Nat} (hu:Upto D n) {l:Bytes} (hn:n+l.length+10 < 4294967296) (hr:J.ahead+nBlocks l.length≤J.size)
  (hf:J.fr+J.size≤D.bk.length) (ho:D.on=true) {v:Value} (hv:Bs w v l) (hoff:∀ q,v.ownBlock=some q→¬ F q) :
  Calls Tryz.prog 86 #[ptr jb,v] w (Puts w b F (writeD J D l).2.1 (writeD J D l).2.2 (writeD J D l).1):=by
 obtain ⟨va,vc,rfl,_⟩:=hv.shape
 refine calls_of_wp_marks 12 Tryz.func86 rfl ?_
 simp only [Tryz.ntmps86,List.size_toArray,List.length_cons,List.length_nil,Nat.reduceAdd,Nat.reduceSub,Array.replicate_succ,Array.replicate_zero,List.push_toArray,List.append_toArray,List.nil_append,List.cons_append]
 have h3:=((h.alloc (.cells #[ptr jb] 87)).alloc (.cells #[.int .i64 0, .int .u64 0] 123)).alloc (.cells #[.int .i64 0] 28)
 obtain ⟨c6,c7⟩:_∧_:=⟨h3.cells.2.2.2.2.2.2.1,h3.cells.2.2.2.2.2.2.2.1⟩
 have hlt:w.heap.size≠jb:=fun e=>by have:=h.lt; omega
 have HC:=Lib.hid (anZ (anZ h (anZ hJ (anZ hD (anZ hjb hu)))) (anZ (anZ hn (anZ hr hf)) (anZ ho (anZ hv hoff))))
 clear h hJ hD hjb hu hn hr hf ho hv hoff h3
 go_wp2_with fail
 refine (pieces_any _ _ _ _).mono ?_
 rintro e w1 ⟨rfl,rfl⟩
 go_wp2
 have B2:=((Cel.new w #[ptr jb] 87).alloc (.cells #[.int .i64 (J.ahead:Int), .int .u64 (J.sum:Int)] 123)).alloc (.cells #[.int .i64 0] 28) |>.alloc (.cells #[.slice va l.length vc] 24)
 have B4:=((Cel.new (w.alloc (.cells #[ptr jb] 87)) #[.int .i64 (J.ahead:Int), .int .u64 (J.sum:Int)] 123).alloc (.cells #[.int .i64 0] 28)).alloc (.cells #[.slice va l.length vc] 24)
 have B5:=(Cel.new ((w.alloc (.cells #[ptr jb] 87)).alloc (.cells #[.int .i64 (J.ahead:Int), .int .u64 (J.sum:Int)] 123)) #[.int .i64 0] 28).alloc (.cells #[.slice va l.length vc] 24)
 have BP:=Cel.new (((w.alloc (.cells #[ptr jb] 87)).alloc (.cells #[.int .i64 (J.ahead:Int), .int .u64 (J.sum:Int)] 123)).alloc (.cells #[.int .i64 0] 28)) #[.slice va l.length vc] 24
 have bw:Below w.heap.size w ((((w.alloc (.cells #[ptr jb] 87)).alloc (.cells #[.int .i64 (J.ahead:Int), .int .u64 (J.sum:Int)] 123)).alloc (.cells #[.int .i64 0] 28)).alloc (.cells #[.slice va l.length vc] 24)) :=
  ((((Below.refl w.heap.size w).alloc (Nat.le_refl _) _).alloc (by simp) _).alloc (by simp; omega) _).alloc (by simp; omega) _
 have hz:((((w.alloc (.cells #[ptr jb] 87)).alloc (.cells #[.int .i64 (J.ahead:Int), .int .u64 (J.sum:Int)] 123)).alloc (.cells #[.int .i64 0] 28)).alloc (.cells #[.slice va l.length vc] 24)).heap.size=w.heap.size+4:=by simp
 simp only [World.size_alloc,Nat.add_assoc,Nat.reduceAdd] at B4 B5 BP
 simp only [Nat.add_assoc,Nat.reduceAdd]
 generalize (((w.alloc (.cells #[ptr jb] 87)).alloc (.cells #[.int .i64 (J.ahead:Int), .int .u64 (J.sum:Int)] 123)).alloc (.cells #[.int .i64 0] 28)).alloc (.cells #[.slice va l.length vc] 24)=w0 at *
 refine range_two (n:=12) (by decide) (gf:=139) (lb := #[.pointer (some ⟨w.heap.size+3,0,none⟩)]) rfl (enters_of Tryz.func139 (by kernel_rfl) rfl) ?_
 intro fn rec W1 hrec hW1
 have hF:=HC.out.1.2.2.1.fl
 have bw1:Below w0.heap.size w0 W1:=by rw [hW1]; exact ((Below.refl _ _).alloc (Nat.le_refl _) _).alloc (by simp) _
 have hz1:W1.heap.size=w.heap.size+6:=by rw [hW1]; simp [hz]
 have bwW:Below w.heap.size w W1:=bw.trans (bw1.mono (by omega))
 have hS1:WS w F jb b (.slice va l.length vc) (rec .ready none) D J.spot 0 W1:={
  only:=Only.of_below bwW _
  dev:=⟨F,HC.out.1.2.2.1.below bwW,fun q hq=>.inl hq⟩
  b2:=B2.below bw1 B2.lt
  b4:=B4.below bw1 B4.lt
  b5:=B5.below bw1 B5.lt
  bp:=BP.below bw1 BP.lt
  dd:=by
   rw [hW1, ← hz]
   exact (Below.heap_alloc _ _ _ (by simp)).trans (World.alloc_heap_new w0 _)
  ll:=by
   have:=World.alloc_heap_new (w0.alloc (.deferred (some []))) (.loop (rec .ready none))
   rw [World.size_alloc,hz] at this
   rw [hW1]
   exact this }
 have hBn:W1.cell? ⟨w.heap.size+3,0,none⟩=some (.slice va l.length vc):=by rw [hS1.bp.cell]; rfl
 rw [hz]
 refine (pieces1_in 11 (by decide) (w.heap.size+5) (w.heap.size+3) (v:=.slice va l.length vc) (bl:=l)
  (fun k W=>∃ Dk tk,putsD J D J.spot (piecesTo l k)=(Dk,tk,0)∧Upto Dk (n+k)∧WS w F jb b (.slice va l.length vc) (rec .ready none) Dk tk 0 W)
  (fun W=>∃ k Dk c,k < nPieces l.length∧c≠0∧putsD J D J.spot (piecesTo l (k+1))=(Dk,(0,0),c)∧WS w F jb b (.slice va l.length vc) (rec .done (some .ret)) Dk (0,0) c W) ?hJ ?hY W1 hBn ⟨D,J.spot,rfl,HC.out.1.2.2.2.2,hS1⟩).mono ?_
 case hJ =>
  rintro k W ⟨Dk,tk,_,_,hW⟩
  exact HC.out.2.2.2.1.only hW.only HC.out.2.2.2.2
 case hY =>
  rintro k x W ⟨Dk,tk,hk,huk,hW⟩ hkn hx
  obtain ⟨xa,xc,rfl,_⟩:=hx.shape
  have hWb:=hW.turn hF (rec .busy none)
  refine (yield_two (a₁:={ tmps := #[ptr jb, .slice va l.length vc, .pointer (some ⟨w.heap.size,0,none⟩),undef, .pointer (some ⟨w.heap.size+1,0,none⟩), .pointer (some ⟨w.heap.size+2,0,none⟩), .slice xa (pieceAt l k).length xc,ptr jb, .pointer (some ⟨jb,0,none⟩), .pointer (some ⟨jb,6,none⟩),spotV J.spot, .slice va l.length vc, .func (.func 139) #[] #[.pointer (some ⟨w.heap.size+3,0,none⟩)], .slice xa (pieceAt l k).length xc,undef,undef,undef,undef,undef,undef,undef,undef,undef,undef,undef,undef,undef,undef,undef,undef,undef,undef,undef,undef,undef,undef,undef,undef,undef,undef,undef,undef,undef,undef,undef,undef,undef,undef,undef,undef,undef,undef,undef,undef],defers:=[] }) (R:=fun W=>∃ Dk tk,putsD J D J.spot (piecesTo l (k+1))=(Dk,tk,0)∧Upto Dk (n+(k+1))∧WS w F jb b (.slice va l.length vc) (rec .ready none) Dk tk 0 W)
   (Rx:=fun W=>∃ k Dk c,k < nPieces l.length∧c≠0∧putsD J D J.spot (piecesTo l (k+1))=(Dk,(0,0),c)∧WS w F jb b (.slice va l.length vc) (rec .done (some .ret)) Dk (0,0) c W) hrec hW.ll rfl ?assign ?body).mono (fun e W' hh=>hh)
  case assign =>
   intro K hK
   gi_wp2
   exact hK
  case body =>
   have hxb:Bs (W.putObj (w.heap.size+5) (.loop (rec .busy none))) (.slice xa (pieceAt l k).length xc) (pieceAt l k):=hx.kept fun a u hu=>by
    have hne:a.block≠w.heap.size+5:=fun e=>by
     have:=hW.ll
     unfold World.cell? at hu
     rw [e,this] at hu
     cases hu
    exact (World.cell?_of_block (World.putObj_heap_other hne)).trans hu
   generalize W.putObj (w.heap.size+5) (.loop (rec .busy none))=Wb at *
   obtain ⟨G,hG,hG'⟩:=hWb.dev
   have jW:=HC.out.1.1.only hWb.only HC.out.1.2.2.2.1
   have hjG:¬ G jb:=fun e=>by
    rcases hG' jb e with h1 | h1
    ·exact HC.out.1.2.2.2.1 h1
    ·have:=HC.out.1.1.lt; omega
   have hwent:=went_puts (J:=J) (piecesTo l k) D J.spot HC.out.2.2.1 HC.out.2.1.2.2 HC.out.1.2.1.atl (by rw [piecesTo_length]; have:=HC.out.2.1.2.1; unfold nBlocks at this; simp only; omega) (fun b hb=>by obtain ⟨i,_,rfl⟩:=List.mem_map.1 hb; exact pieceAt_length l i)
   rw [hk] at hwent
   have htk:tk.1=J.ahead+k:=by
    have:=hwent.2.2 rfl
    simp only at this
    rw [this,encP_spot,piecesTo_length]
   have htl:tk.1 < J.size:=by have:=HC.out.2.1.2.1; unfold nBlocks at this; omega
   have hsm:Small Dk:=huk.small (by have:=HC.out.2.1.1; have:nPieces l.length≤l.length+1:=(by unfold nPieces; omega); omega)
   have hput:=put_any' jW HC.out.1.2.1 hG hjG hsm tk htl (k:=1) (by decide) (kv:=.int .u8 1) rfl hxb (pieceAt_length l k)
   have hcall:CallsIn (Fence.wide.inRound (w.heap.size+5)) (11-1-1) Tryz.prog 111 #[ptr jb,spotV tk, .int .u8 1, .slice xa (pieceAt l k).length xc] Wb _:=CallsIn.inRound _ (callsIn_wide.2 hput)
   obtain ⟨d2,d4,d5,d6,e4,e5,e6⟩:=hWb.cells
   have HP:=Lib.hid (anZ hcall (anZ hG' (anZ hWb (anZ hk (anZ hkn huk)))))
   have HR:=Lib.hid (anZ hrec (anZ hF hW))
   have hmore:=putsD_more hk
   have HM:=Lib.hid hmore
   clear hcall hput hG hG' hWb hk hkn huk jW hjG hwent htk htl hsm hxb hrec hF hW hmore hx hS1 hW1 hBn bwW bw1 B2 B4 B5 BP c6 c7 hlt bw hz hz1
   have h11:1≤11-1-1:=by decide
   gi_wp2_with fail
   refine ⟨trivial,HP.out.1.mono ?_⟩
   rintro e W2 ⟨rfl,hd2,ho2⟩
   have hW2:=HP.out.2.2.1.step HP.out.2.1 HR.out.2.1 hd2 ho2
   have hu2:Upto (putD J Dk tk 1 (pieceAt l k)) (n+(k+1)):=(wdev_upto HP.out.2.2.2.2.2 _ _).1
   obtain ⟨y2,y4,y5,y6,z4,z5,z6⟩:=hW2.cells
   by_cases hc:putC J Dk tk 1 (pieceAt l k)=0
   ·have hsp:putS J Dk tk 1 (pieceAt l k)=behindS tk (J.blk tk 1 (pieceAt l k)):=by unfold putS; rw [if_pos hc]
    have hm:=HM.out
    rw [if_pos hc] at hm
    have H2:=Lib.hid (anZ hW2 (anZ hu2 (anZ hsp hm)))
    rw [hsp,hc]
    clear hd2 ho2 hW2 hu2 hc hm hsp d2 d4 d5 d6 e4 e5 e6
    gi_wp2
    have hW3:=(H2.out.1.spot (behindS tk (J.blk tk 1 (pieceAt l k))) HR.out.2.1).cell5 0 HR.out.2.1
    refine ⟨hW3.ll,_,_,H2.out.2.2.2,H2.out.2.1,hW3.turn HR.out.2.1 _⟩
   ·have hsp:putS J Dk tk 1 (pieceAt l k)=(0,0):=by unfold putS; rw [if_neg hc]
    have hm:=HM.out
    rw [if_neg hc] at hm
    obtain ⟨c,hcx⟩:∃ c,putC J Dk tk 1 (pieceAt l k)=c:=⟨_,rfl⟩
    rw [hcx] at hc hm
    rw [hsp,hcx]
    have hq:(c != 0)=true:=by simpa using hc
    have H2:=Lib.hid (anZ hW2 (anZ hc (anZ hsp hm)))
    clear hd2 ho2 hW2 hu2 hc hm hsp d2 d4 d5 d6 e4 e5 e6 hcx
    gi_wp2
    have hW3:=(H2.out.1.spot (0,0) HR.out.2.1).cell5 c HR.out.2.1
    clear y2 y4 y5 y6 z4 z5 z6
    simp only [Int.natCast_zero] at hW3
    generalize ((W2.setCell ⟨w.heap.size+1,0,none⟩ (.int .i64 0)).setCell ⟨w.heap.size+1,1,none⟩ (.int .u64 0)).setCell ⟨w.heap.size+2,0,none⟩ (.int .i64 c)=W3 at *
    have h5:∀ W:World,W.heap[w.heap.size+2]? = W3.heap[w.heap.size+2]? → W.cell? ⟨w.heap.size+2,0,none⟩=some (err c):=fun W hW=>by rw [(hW3.b5.kept hW).cell]; rfl
    have HX:=Lib.hid h5
    have H3:=Lib.hid hW3
    clear h5 hW3
    refine region_till_round 99 (fun W=>W.heap[w.heap.size+2]? = W3.heap[w.heap.size+2]?) (by kernel_rfl) (by kernel_rfl) (fun ⟨_,_,hh⟩=>hh) rfl (fun hS=>?_)
    refine tkZ (i:=0) 23 (spotV (0,0)) rfl rfl (by kernel_rfl) (fun _ _ _ h=>h) (by rfl) (fun W hW=>?_) hS ?_
    ·have hx:=HX.out W hW
     clear hW
     go_simp
    simp only [Act.put,sAZ,sBZ,sCZ]
    refine tkZ (i:=1) 24 (err c) rfl rfl (by kernel_rfl) (fun _ _ _ h=>h) (by rfl) (fun W hW=>?_) hS ?_
    ·have hx:=HX.out W hW
     clear hW
     go_simp
    simp only [Act.put,sAZ,sBZ,sCZ]
    obtain ⟨y2,y4,y5,y6,z4,z5,z6⟩:=H3.out.cells
    refine next_till 2 (by kernel_rfl) rfl (fun K hK=>?_)
    go_simp
    have hW4:=(H3.out.spot (0,0) HR.out.2.1).drew HR.out.2.1
    have k4:(((W3.setCell ⟨w.heap.size+1,0,none⟩ (.int .i64 0)).setCell ⟨w.heap.size+1,1,none⟩ (.int .u64 0)).drew).heap[w.heap.size+2]? = W3.heap[w.heap.size+2]? :=
     (Below.heap_setCell _ ⟨w.heap.size+1,1,none⟩ _ _ (by simp)).trans (Below.heap_setCell _ ⟨w.heap.size+1,0,none⟩ _ _ (by simp))
    refine hK.out _ _ (fun _=>k4) ?_
    clear hK K hS y2 y4 y5 y6 z4 z5 z6
    simp only [Int.natCast_zero] at hW4
    generalize ((W3.setCell ⟨w.heap.size+1,0,none⟩ (.int .i64 0)).setCell ⟨w.heap.size+1,1,none⟩ (.int .u64 0)).drew=W4 at *
    obtain ⟨y2,y4,y5,y6,z4,z5,z6⟩:=hW4.cells
    have H4:=Lib.hid (hW4.cell5 c HR.out.2.1)
    clear hW4
    refine next_till 3 (by kernel_rfl) rfl (fun K hK=>?_)
    go_simp
    have k5:(W4.setCell ⟨w.heap.size+2,0,none⟩ (.int .i64 c)).heap[w.heap.size+2]? = W3.heap[w.heap.size+2]?:=by
     have h1:=H4.out.b5
     have h2:=H3.out.b5
     unfold Cel at h1 h2
     rw [h2]
     exact h1
    refine hK.out _ _ (fun _=>k5) ?_
    clear hK K
    refine done_till (by kernel_rfl) ?_ _
    gi_wp2
    exact ⟨H4.out.ll,k,HP.out.2.2.2.2.1,_,c,H2.out.2.1,H2.out.2.2.2,H4.out.turn HR.out.2.1 _⟩
 rintro e W2 ⟨⟨r,rfl⟩,(⟨Dm,tm,hm,hum,hW⟩ | ⟨k,Dk,c,hk,hc,hp,hW⟩)⟩
 ·refine ⟨⟨_,rfl⟩, .inl ⟨hW.ll,?_⟩⟩
  have hWe:=hW.turn hF (rec .exhausted none)
  have hwd:=write_close hm
  have hwent:=went_puts (J:=J) (piecesL l) D J.spot HC.out.2.2.1 HC.out.2.1.2.2 HC.out.1.2.1.atl (by rw [piecesL_length]; have:=HC.out.2.1.2.1; unfold nBlocks at this; simp only; omega) (piecesL_short l)
  have hmL:putsD J D J.spot (piecesL l)=(Dm,tm,0):=hm
  rw [hmL] at hwent
  have htm:tm.1=J.ahead+nPieces l.length:=by
   have:=hwent.2.2 rfl
   simp only at this
   rw [this,encP_spot,piecesL_length]
  have htl:tm.1 < J.size:=by have:=HC.out.2.1.2.1; unfold nBlocks at this; omega
  have hnp:nPieces l.length≤l.length+1:=by unfold nPieces; omega
  have hbig:=HC.out.2.1.1
  have hsm:Small Dm:=hum.small (by omega)
  have hum2:=(fdev_upto hum).1
  have hsm2:Small (fdev Dm):=hum2.small (by omega)
  have hsm3:Small (putD J (fdev Dm) tm 2 []):=(wdev_upto hum2 _ _).1.small (by omega)
  have H2:=Lib.hid hWe
  have HT:=Lib.hid (anZ htl (anZ hsm (anZ hsm2 hsm3)))
  have HD:=Lib.hid hwd
  clear hW hWe hS1 hW1 hBn bwW bw1 B2 B4 B5 BP c6 c7 hlt bw hz hz1 hwd hm hmL hwent htm htl hnp hbig hsm hum2 hsm2 hsm3 hum
  simp only [Nat.add_assoc,Nat.reduceAdd]
  generalize W2.putObj (w.heap.size+5) (.loop (rec .exhausted none))=We at *
  obtain ⟨y2,y4,y5,y6,z4,z5,z6⟩:=H2.out.cells
  have jc:=(HC.out.1.1.only H2.out.only HC.out.1.2.2.2.1).cells.1
  obtain ⟨G,hG,hG'⟩:=H2.out.dev
  have hfl:=dflush_any hG HT.out.2.1
  have HL:=Lib.hid (anZ hfl hG')
  clear hfl hG hG'
  go_wp2_with fail
  refine HL.out.1.mono ?_
  rintro e W5 ⟨rfl,hd5,ho5⟩
  have hW5:=H2.out.step HL.out.2 hF hd5 ho5
  clear y2 y4 y5 y6 z4 z5 z6 jc hd5 ho5
  obtain ⟨y2,y4,y5,y6,z4,z5,z6⟩:=hW5.cells
  by_cases hc1:fcode Dm=0
  ·have jc:=(HC.out.1.1.only hW5.only HC.out.1.2.2.2.1).cells.1
   have H5:=Lib.hid (anZ hW5 hc1)
   rw [hc1]
   obtain ⟨G2,hG2,hG2'⟩:=hW5.dev
   clear hW5 hc1
   have hjG:¬ G2 jb:=fun e=>by
    rcases hG2' jb e with h1 | h1
    ·exact HC.out.1.2.2.2.1 h1
    ·have:=HC.out.1.1.lt; omega
   have hW6:=H5.out.1.cell5 0 hF
   obtain ⟨G3,hG3,hG3'⟩:=hW6.dev
   have hj6:=HC.out.1.1.only hW6.only HC.out.1.2.2.2.1
   have hjG3:¬ G3 jb:=fun e=>by
    rcases hG3' jb e with h1 | h1
    ·exact HC.out.1.2.2.2.1 h1
    ·have:=HC.out.1.1.lt; omega
   have hput:=put_any' hj6 HC.out.1.2.1 hG3 hjG3 HT.out.2.2.1 tm HT.out.1 (k:=2) (by decide) (kv:=.int .u8 2) rfl (pv:=.slice none 0 0) (p:=[]) (Bs.nil _) (by simp)
   have HP:=Lib.hid (anZ hput (anZ hG3' hW6))
   clear hput hG3 hG3' hW6 hj6 hjG3 hjG hG2 hG2' jc
   go_wp2_with fail
   refine HP.out.1.mono ?_
   rintro e W7 ⟨rfl,hd7,ho7⟩
   have hW7:=HP.out.2.2.step HP.out.2.1 hF hd7 ho7
   clear y2 y4 y5 y6 z4 z5 z6 hd7 ho7
   obtain ⟨y2,y4,y5,y6,z4,z5,z6⟩:=hW7.cells
   by_cases hc2:putC J (fdev Dm) tm 2 []=0
   ·have hsp:putS J (fdev Dm) tm 2 []=behindS tm (J.blk tm 2 []):=by unfold putS; rw [if_pos hc2]
    rw [hsp,hc2]
    have hW8:=(hW7.spot (behindS tm (J.blk tm 2 [])) hF).cell5 0 hF
    have jc:=(HC.out.1.1.only hW8.only HC.out.1.2.2.2.1).cells.1
    have H7:=Lib.hid (anZ hW8 hc2)
    obtain ⟨G4,hG4,hG4'⟩:=hW8.dev
    have hfl:=dflush_any hG4 HT.out.2.2.2
    have HL2:=Lib.hid (anZ hfl hG4')
    clear hfl hG4 hG4' hW7 hW8 hc2 hsp
    go_wp2_with fail
    refine HL2.out.1.mono ?_
    rintro e W9 ⟨rfl,hd9,ho9⟩
    have hW9:=H7.out.1.step HL2.out.2 hF hd9 ho9
    clear y2 y4 y5 y6 z4 z5 z6 jc hd9 ho9
    obtain ⟨y2,y4,y5,y6,z4,z5,z6⟩:=hW9.cells
    by_cases hc3:fcode (putD J (fdev Dm) tm 2 [])=0
    ·have hw:writeD J D l=(fdev (putD J (fdev Dm) tm 2 []),behindS tm (J.blk tm 2 []),0):=by
      rw [HD.out]
      unfold closeD
      rw [if_neg (by simpa using H5.out.2),if_neg (by simpa using H7.out.2),if_neg (by simpa using hc3)]
     have HW:=Lib.hid hw
     rw [hc3]
     have H9:=Lib.hid hW9
     clear hW9 hc3 hw
     go_wp2
     have H10:=Lib.hid (((H9.out.cell5 0 hF).spot (behindS tm (J.blk tm 2 [])) hF).cell5 0 hF)
     refine ⟨by simp, .inl ⟨_,_,rfl,run_takeDeferred H10.out.dd,?_⟩⟩
     obtain ⟨q1,q2,q3,q4⟩:=H10.out.ends hF
     rw [HW.out]
     exact ⟨_,results_cell2 rfl rfl rfl (load_spot q3) (load_err q4),rfl,q1,q2⟩
    ·have hw:writeD J D l=(fdev (putD J (fdev Dm) tm 2 []),(0,0),fcode (putD J (fdev Dm) tm 2 [])):=by
      rw [HD.out]
      unfold closeD
      rw [if_neg (by simpa using H5.out.2),if_neg (by simpa using H7.out.2),if_pos hc3]
     obtain ⟨c,hcx⟩:∃ c,fcode (putD J (fdev Dm) tm 2 [])=c:=⟨_,rfl⟩
     rw [hcx] at hc3 hw
     rw [hcx]
     have hq:(c != 0)=true:=by simpa using hc3
     have HW:=Lib.hid hw
     have H9:=Lib.hid hW9
     clear hW9 hc3 hcx hw
     go_wp2
     have hW3:=H9.out.cell5 c hF
     clear y2 y4 y5 y6 z4 z5 z6
     generalize W9.setCell ⟨w.heap.size+2,0,none⟩ (.int .i64 c)=W3 at *
     have h5:∀ W:World,W.heap[w.heap.size+2]? = W3.heap[w.heap.size+2]? → W.cell? ⟨w.heap.size+2,0,none⟩=some (err c):=fun W hW=>by rw [(hW3.b5.kept hW).cell]; rfl
     have HX:=Lib.hid h5
     have H3:=Lib.hid hW3
     clear h5 hW3
     refine wp_onward ?_
     refine region_till 99 (fun W=>W.heap[w.heap.size+2]? = W3.heap[w.heap.size+2]?) (by kernel_rfl) rfl (fun hS=>?_)
     refine tkZ (i:=0) 51 (spotV (0,0)) rfl rfl (by kernel_rfl) (fun _ _ _ h=>h) (by rfl) (fun W hW=>?_) hS ?_
     ·have hx:=HX.out W hW
      clear hW
      go_simp
     simp only [Act.put,sAZ,sBZ,sCZ]
     refine tkZ (i:=1) 52 (err c) rfl rfl (by kernel_rfl) (fun _ _ _ h=>h) (by rfl) (fun W hW=>?_) hS ?_
     ·have hx:=HX.out W hW
      clear hW
      go_simp
     simp only [Act.put,sAZ,sBZ,sCZ]
     obtain ⟨y2,y4,y5,y6,z4,z5,z6⟩:=H3.out.cells
     refine next_till 2 (by kernel_rfl) rfl (fun K hK=>?_)
     go_simp
     have hW4:=(H3.out.spot (0,0) hF).drew hF
     have k4:(((W3.setCell ⟨w.heap.size+1,0,none⟩ (.int .i64 0)).setCell ⟨w.heap.size+1,1,none⟩ (.int .u64 0)).drew).heap[w.heap.size+2]? = W3.heap[w.heap.size+2]? :=
      (Below.heap_setCell _ ⟨w.heap.size+1,1,none⟩ _ _ (by simp)).trans (Below.heap_setCell _ ⟨w.heap.size+1,0,none⟩ _ _ (by simp))
     refine hK.out _ _ (fun _=>k4) ?_
     clear hK K hS y2 y4 y5 y6 z4 z5 z6
     simp only [Int.natCast_zero] at hW4
     generalize ((W3.setCell ⟨w.heap.size+1,0,none⟩ (.int .i64 0)).setCell ⟨w.heap.size+1,1,none⟩ (.int .u64 0)).drew=W4 at *
     obtain ⟨y2,y4,y5,y6,z4,z5,z6⟩:=hW4.cells
     have H4:=Lib.hid (hW4.cell5 c hF)
     clear hW4
     refine next_till 3 (by kernel_rfl) rfl (fun K hK=>?_)
     go_simp
     have k5:(W4.setCell ⟨w.heap.size+2,0,none⟩ (.int .i64 c)).heap[w.heap.size+2]? = W3.heap[w.heap.size+2]?:=by
      have h1:=H4.out.b5
      have h2:=H3.out.b5
      unfold Cel at h1 h2
      rw [h2]
      exact h1
     refine hK.out _ _ (fun _=>k5) ?_
     clear hK K
     refine done_till (by kernel_rfl) ?_ _
     simp only [Onward]
     go_wp2
     refine ⟨by simp, .inl ⟨_,_,rfl,run_takeDeferred H4.out.dd,?_⟩⟩
     obtain ⟨q1,q2,q3,q4⟩:=H4.out.ends hF
     rw [HW.out]
     exact ⟨_,results_cell2 rfl rfl rfl (load_spot q3) (load_err q4),rfl,q1,q2⟩
   ·have hsp:putS J (fdev Dm) tm 2 []=(0,0):=by unfold putS; rw [if_neg hc2]
    have hw:writeD J D l=(putD J (fdev Dm) tm 2 [],(0,0),putC J (fdev Dm) tm 2 []):=by
     rw [HD.out]
     unfold closeD
     rw [if_neg (by simpa using H5.out.2),if_pos hc2]
    obtain ⟨c,hcx⟩:∃ c,putC J (fdev Dm) tm 2 []=c:=⟨_,rfl⟩
    rw [hcx] at hc2 hw
    rw [hsp,hcx]
    have hq:(c != 0)=true:=by simpa using hc2
    have HW:=Lib.hid hw
    have H7:=Lib.hid hW7
    clear hW7 hc2 hcx hw hsp
    go_wp2
    have hW3:=(H7.out.spot (0,0) hF).cell5 c hF
    clear y2 y4 y5 y6 z4 z5 z6
    simp only [Int.natCast_zero] at hW3
    generalize ((W7.setCell ⟨w.heap.size+1,0,none⟩ (.int .i64 0)).setCell ⟨w.heap.size+1,1,none⟩ (.int .u64 0)).setCell ⟨w.heap.size+2,0,none⟩ (.int .i64 c)=W3 at *
    have h5:∀ W:World,W.heap[w.heap.size+2]? = W3.heap[w.heap.size+2]? → W.cell? ⟨w.heap.size+2,0,none⟩=some (err c):=fun W hW=>by rw [(hW3.b5.kept hW).cell]; rfl
    have HX:=Lib.hid h5
    have H3:=Lib.hid hW3
    clear h5 hW3
    refine wp_onward ?_
    refine region_till 99 (fun W=>W.heap[w.heap.size+2]? = W3.heap[w.heap.size+2]?) (by kernel_rfl) rfl (fun hS=>?_)
    refine tkZ (i:=0) 42 (spotV (0,0)) rfl rfl (by kernel_rfl) (fun _ _ _ h=>h) (by rfl) (fun W hW=>?_) hS ?_
    ·have hx:=HX.out W hW
     clear hW
     go_simp
    simp only [Act.put,sAZ,sBZ,sCZ]
    refine tkZ (i:=1) 43 (err c) rfl rfl (by kernel_rfl) (fun _ _ _ h=>h) (by rfl) (fun W hW=>?_) hS ?_
    ·have hx:=HX.out W hW
     clear hW
     go_simp
    simp only [Act.put,sAZ,sBZ,sCZ]
    obtain ⟨y2,y4,y5,y6,z4,z5,z6⟩:=H3.out.cells
    refine next_till 2 (by kernel_rfl) rfl (fun K hK=>?_)
    go_simp
    have hW4:=(H3.out.spot (0,0) hF).drew hF
    have k4:(((W3.setCell ⟨w.heap.size+1,0,none⟩ (.int .i64 0)).setCell ⟨w.heap.size+1,1,none⟩ (.int .u64 0)).drew).heap[w.heap.size+2]? = W3.heap[w.heap.size+2]? :=
     (Below.heap_setCell _ ⟨w.heap.size+1,1,none⟩ _ _ (by simp)).trans (Below.heap_setCell _ ⟨w.heap.size+1,0,none⟩ _ _ (by simp))
    refine hK.out _ _ (fun _=>k4) ?_
    clear hK K hS y2 y4 y5 y6 z4 z5 z6
    simp only [Int.natCast_zero] at hW4
    generalize ((W3.setCell ⟨w.heap.size+1,0,none⟩ (.int .i64 0)).setCell ⟨w.heap.size+1,1,none⟩ (.int .u64 0)).drew=W4 at *
    obtain ⟨y2,y4,y5,y6,z4,z5,z6⟩:=hW4.cells
    have H4:=Lib.hid (hW4.cell5 c hF)
    clear hW4
    refine next_till 3 (by kernel_rfl) rfl (fun K hK=>?_)
    go_simp
    have k5:(W4.setCell ⟨w.heap.size+2,0,none⟩ (.int .i64 c)).heap[w.heap.size+2]? = W3.heap[w.heap.size+2]?:=by
     have h1:=H4.out.b5
     have h2:=H3.out.b5
     unfold Cel at h1 h2
     rw [h2]
     exact h1
    refine hK.out _ _ (fun _=>k5) ?_
    clear hK K
    refine done_till (by kernel_rfl) ?_ _
    simp only [Onward]
    go_wp2
    refine ⟨by simp, .inl ⟨_,_,rfl,run_takeDeferred H4.out.dd,?_⟩⟩
    obtain ⟨q1,q2,q3,q4⟩:=H4.out.ends hF
    rw [HW.out]
    exact ⟨_,results_cell2 rfl rfl rfl (load_spot q3) (load_err q4),rfl,q1,q2⟩
  ·have hw:writeD J D l=(fdev Dm,(0,0),fcode Dm):=by
    rw [HD.out]
    unfold closeD
    rw [if_pos hc1]
   obtain ⟨c,hcx⟩:∃ c,fcode Dm=c:=⟨_,rfl⟩
   rw [hcx] at hc1 hw
   rw [hcx]
   have hq:(c != 0)=true:=by simpa using hc1
   have HW:=Lib.hid hw
   have H5:=Lib.hid hW5
   clear hW5 hc1 hcx hw
   go_wp2
   have hW3:=H5.out.cell5 c hF
   clear y2 y4 y5 y6 z4 z5 z6
   generalize W5.setCell ⟨w.heap.size+2,0,none⟩ (.int .i64 c)=W3 at *
   have h5:∀ W:World,W.heap[w.heap.size+2]? = W3.heap[w.heap.size+2]? → W.cell? ⟨w.heap.size+2,0,none⟩=some (err c):=fun W hW=>by rw [(hW3.b5.kept hW).cell]; rfl
   have HX:=Lib.hid h5
   have H3:=Lib.hid hW3
   clear h5 hW3
   refine wp_onward ?_
   refine region_till 99 (fun W=>W.heap[w.heap.size+2]? = W3.heap[w.heap.size+2]?) (by kernel_rfl) rfl (fun hS=>?_)
   refine tkZ (i:=0) 32 (spotV (0,0)) rfl rfl (by kernel_rfl) (fun _ _ _ h=>h) (by rfl) (fun W hW=>?_) hS ?_
   ·have hx:=HX.out W hW
    clear hW
    go_simp
   simp only [Act.put,sAZ,sBZ,sCZ]
   refine tkZ (i:=1) 33 (err c) rfl rfl (by kernel_rfl) (fun _ _ _ h=>h) (by rfl) (fun W hW=>?_) hS ?_
   ·have hx:=HX.out W hW
    clear hW
    go_simp
   simp only [Act.put,sAZ,sBZ,sCZ]
   obtain ⟨y2,y4,y5,y6,z4,z5,z6⟩:=H3.out.cells
   refine next_till 2 (by kernel_rfl) rfl (fun K hK=>?_)
   go_simp
   have hW4:=(H3.out.spot (0,0) hF).drew hF
   have k4:(((W3.setCell ⟨w.heap.size+1,0,none⟩ (.int .i64 0)).setCell ⟨w.heap.size+1,1,none⟩ (.int .u64 0)).drew).heap[w.heap.size+2]? = W3.heap[w.heap.size+2]? :=
    (Below.heap_setCell _ ⟨w.heap.size+1,1,none⟩ _ _ (by simp)).trans (Below.heap_setCell _ ⟨w.heap.size+1,0,none⟩ _ _ (by simp))
   refine hK.out _ _ (fun _=>k4) ?_
   clear hK K hS y2 y4 y5 y6 z4 z5 z6
   simp only [Int.natCast_zero] at hW4
   generalize ((W3.setCell ⟨w.heap.size+1,0,none⟩ (.int .i64 0)).setCell ⟨w.heap.size+1,1,none⟩ (.int .u64 0)).drew=W4 at *
   obtain ⟨y2,y4,y5,y6,z4,z5,z6⟩:=hW4.cells
   have H4:=Lib.hid (hW4.cell5 c hF)
   clear hW4
   refine next_till 3 (by kernel_rfl) rfl (fun K hK=>?_)
   go_simp
   have k5:(W4.setCell ⟨w.heap.size+2,0,none⟩ (.int .i64 c)).heap[w.heap.size+2]? = W3.heap[w.heap.size+2]?:=by
    have h1:=H4.out.b5
    have h2:=H3.out.b5
    unfold Cel at h1 h2
    rw [h2]
    exact h1
   refine hK.out _ _ (fun _=>k5) ?_
   clear hK K
   refine done_till (by kernel_rfl) ?_ _
   simp only [Onward]
   go_wp2
   refine ⟨by simp, .inl ⟨_,_,rfl,run_takeDeferred H4.out.dd,?_⟩⟩
   obtain ⟨q1,q2,q3,q4⟩:=H4.out.ends hF
   rw [HW.out]
   exact ⟨_,results_cell2 rfl rfl rfl (load_spot q3) (load_err q4),rfl,q1,q2⟩
 ·refine ⟨⟨_,rfl⟩, .inr ⟨hW.ll,?_⟩⟩
  have hWe:=hW.turn hF (rec .exhausted (some .ret))
  have hwd:=write_stop hp hc hk
  rw [hwd]
  have hdd:=hWe.dd
  have H2:=Lib.hid hWe
  clear hW hWe hS1 hW1 hBn bwW bw1 B2 B4 B5 BP c6 c7 hlt bw hz hz1 hwd hp
  simp only [Nat.add_assoc,Nat.reduceAdd]
  generalize W2.putObj (w.heap.size+5) (.loop (rec .exhausted (some .ret)))=We at *
  go_wp2
  refine ⟨by simp, .inl ⟨_,_,rfl,run_takeDeferred H2.out.dd,?_⟩⟩
  obtain ⟨q1,q2,q3,q4⟩:=H2.out.ends hF
  exact ⟨_,results_cell2 rfl rfl rfl (load_spot q3) (load_err q4),rfl,q1,q2⟩
end
end Go.Proofs.YtgkofgifoiinkaaGreat
namespace Go.Proofs.YtgkofgifoiinkaaGreat
open Go.RowKit
section
variable {w w':World} {jb b:Nat} {J:Jn} {D:Dv} {F:Nat→Prop}
theorem append_nil (v:Value) (w:World):Calls Tryz.prog 51 #[.pointer none,v] w fun e w'=>e = .returned (.int .i64 2)∧w=w':=by
 go_enter Tryz.func51,Tryz.ntmps51
 go_wp2
 go_ret
 exact ⟨rfl,rfl⟩
def appJ (J:Jn) (D:Dv) (l:Bytes):Jn:=if (writeD J D l).2.2=0 then J.more (writeD J D l).2.1 else J.dies
def Appends (w:World) (jb b:Nat) (F:Nat→Prop) (c:Int) (D':Dv) (J':Jn) (e:Ending) (w':World):Prop :=
 e = .returned (err c)∧Dev w' b D' (Grow F w w')∧JAt w' jb b J'∧Only (fun q=>F q∨q=jb) w w'
set_option maxHeartbeats 1000000 in
theorem append_go (h:JAt w jb b J) (hJ:J.Fit) (hD:Dev w b D F) (hjb:¬ F jb) {n:Nat} (hu:Upto D n) {l:Bytes} (hn:n+l.length+10 < 4294967296) (hd:J.dead=false) (hr:J.ahead+nBlocks l.length≤J.size)
  (hf:J.fr+J.size≤D.bk.length) (ho:D.on=true) (hm:J.seq+J.held+1 < 18446744073709551616) {v:Value} (hv:Bs w v l) (hoff:∀ q,v.ownBlock=some q→¬ F q) :
  Calls Tryz.prog 51 #[ptr jb,v] w (Appends w jb b F (writeD J D l).2.2 (writeD J D l).1 (appJ J D l)):=by
 have c8:=h.cells.2.2.2.2.2.2.2.2
 rw [hd] at c8
 obtain ⟨va,vc,rfl,_⟩:=hv.shape
 have hlen:=hv.len
 have hq:(nBlocks l.length:Nat)≤(J.size:Int)-(J.ahead:Int):=by omega
 have H:=Lib.hid (anZ h (anZ hJ (anZ hD (anZ hjb (anZ hu (anZ hn (anZ hr (anZ hf (anZ ho (anZ hv (anZ hoff hm)))))))))))
 clear h hd hJ hr hv hD hjb hu hn hf ho hoff hm
 unfold Appends
 go_enter Tryz.func51,Tryz.ntmps51
 go_wp2_with fail
 refine (blocks_any _ _ (by omega) (by omega)).mono ?_
 rintro e w1 ⟨rfl,rfl⟩
 go_wp2_with fail
 refine (free_any H.out.1 H.out.2.1).mono ?_
 rintro e w1 ⟨rfl,m,rfl⟩
 obtain ⟨h,hJ,hD,hjb,hu,hn,hr,hf,ho,hv,hoff,hm⟩:=H.out
 have bd:Below w.heap.size w (w.drewN m):=below_drewN (Below.refl _ _) m
 have hw:=write_any (h.below bd) hJ (hD.below bd) hjb hu hn hr hf ho (hv.below bd) hoff
 have hHW:=Lib.hid hw
 clear h hJ hD hjb hu hn hr hf ho hv hoff hm bd hw
 go_wp2_with fail
 refine hHW.out.mono ?_
 rintro e w2 ⟨rfl,hd2,ho2⟩
 have ho2':Only F w w2:=(Only.of_below (below_drewN (Below.refl _ _) m) F).trans ho2
 have hj2:=H.out.1.only ho2' H.out.2.2.2.1
 have hd2':Dev w2 b (writeD J D l).1 (Grow F w w2):=hd2
 have h3:=hj2.alloc (.cells #[.int .i64 ((writeD J D l).2.1.1:Int), .int .u64 ((writeD J D l).2.1.2:Int)] 123)
 have b3:Below w2.heap.size w2 (w2.alloc (.cells #[.int .i64 ((writeD J D l).2.1.1:Int), .int .u64 ((writeD J D l).2.1.2:Int)] 123)):=(Below.refl _ _).alloc (Nat.le_refl _) _
 have d3:=hd2'.below b3
 have o3:=ho2'.trans (Only.of_below b3 F)
 have hnG:∀ {W:World},¬ Grow F w W jb:=fun e=>by
  rcases e with e | e
  ·exact H.out.2.2.2.1 e
  ·have:=H.out.1.lt; omega
 have H3:=Lib.hid (anZ h3 (anZ d3 o3))
 have hlt:w2.heap.size≠jb:=fun e=>by have:=hj2.lt; omega
 clear hd2 ho2 ho2' hd2' b3 d3 o3 h3 hj2 c8 hHW
 by_cases hc:(writeD J D l).2.2=0
 ·have hA:appJ J D l=J.more (writeD J D l).2.1:=by unfold appJ; rw [if_pos hc]
  rw [hc]
  have HA:=Lib.hid (anZ hA hc)
  clear hc hA
  obtain ⟨t,ht⟩:∃ t,(writeD J D l).2.1=t:=⟨_,rfl⟩
  have H4:=Lib.hid (anZ ht H3.out)
  rw [ht]
  clear ht
  go_wp2_with fail
  have h5:=H4.out.2.1
  rw [H4.out.1] at h5
  have d5:=H4.out.2.2.1
  have o5:=H4.out.2.2.2
  rw [H4.out.1] at d5 o5
  refine (hold_any h5 H.out.2.2.2.2.2.2.2.2.2.2.2 t).mono ?_
  rintro e w6 ⟨rfl,h6,o6⟩
  have d6:=d5.other o6 fun q hq e=>hnG (e ▸ hq)
  have z6:=o6.size
  have z5:=o5.size
  have H6:=Lib.hid (anZ h6 (anZ (d6.widen (F':=Grow F w w6) (fun q hq=>hq.imp id fun hq=>⟨hq.1,by have:=d5.fl q (.inr hq); omega⟩) (fun q hq=>by
   rcases hq with hq | hq
   ·have:=d5.fl q (.inl hq); omega
   ·exact hq.2)) ((o5.mono (T:=fun q=>F q∨q=jb) fun q _ hq=>.inl hq).trans (o6.mono fun q _ hq=>.inr hq))))
  clear h5 d5 o5 h6 o6 d6 z6 z5
  go_wp2
  go_ret
  rw [HA.out.2,HA.out.1,H4.out.1]
  exact ⟨rfl,H6.out.2.1,H6.out.1,H6.out.2.2⟩
 ·have hA:appJ J D l=J.dies:=by unfold appJ; rw [if_neg hc]
  obtain ⟨c,hcx⟩:∃ c,(writeD J D l).2.2=c:=⟨_,rfl⟩
  rw [hcx] at hc ⊢
  have hq2:(c != 0)=true:=by simpa using hc
  have HA:=Lib.hid (anZ hA hcx)
  have c8:=H3.out.1.cells.2.2.2.2.2.2.2.2
  have f8:=Cel.frozen H3.out.1 8
  clear hc hA hcx
  go_wp2
  go_ret
  have h6:=H3.out.1.set 8 (.bool true)
  have o6:=(Only.refl (· = jb) (w2.alloc (.cells #[.int .i64 ((writeD J D l).2.1.1:Int), .int .u64 ((writeD J D l).2.1.2:Int)] 123))).setCell (p:=⟨jb,8,none⟩) (.inl rfl) (.bool true)
  have d6:=H3.out.2.1.other o6 fun q hq e=>hnG (e ▸ hq)
  have z6:=o6.size
  have z5:=H3.out.2.2.size
  rw [HA.out.1,HA.out.2]
  refine ⟨rfl,d6.widen (fun q hq=>hq.imp id fun hq=>⟨hq.1,by have:=H3.out.2.1.fl q (.inr hq); omega⟩) (fun q hq=>?_),h6,(H3.out.2.2.mono fun q _ hq=>.inl hq).trans (o6.mono fun q _ hq=>.inr hq)⟩
  rcases hq with hq | hq
  ·have:=H3.out.2.1.fl q (.inl hq); omega
  ·exact hq.2
end
end Go.Proofs.YtgkofgifoiinkaaGreat
