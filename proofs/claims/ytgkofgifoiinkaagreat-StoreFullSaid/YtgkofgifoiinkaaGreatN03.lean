/- The contract of octet.PutBytes: it answers as the chapter says and writes nothing that was there; conditions: the lengths that it names. -/
import Derived.Test.YtgkofgifoiinkaaGreatN02
import Derived.Test.YtgkofgifoiinkaaGreatN01
import Derived.Laws.Rows
import Derived.Laws.ResultCell
import Derived.Deep.QuietTactic
import Derived.BigQuiet
namespace Go.Proofs.YtgkofgifoiinkaaGreat
open Go.RowKit
structure Fv where
 f:Nat
 caps:Array Value
def Fv.v (x:Fv):Value:=.func (.func x.f) #[] x.caps
def kdFn:Kd Fv Fv where
 sz:=1
 pos:=by decide
 cs t:=[t.v]
 len _:=rfl
 one t u hu:=by
  simp only [List.mem_cons,List.not_mem_nil,or_false] at hu
  rcases hu with rfl
  rfl
 con t:=t
 ok _ _ _:=True
 step _ _:=trivial
theorem fn_ty:RowTy Tryz.prog kdFn 82 46:=RowTy.of (z:=.nilFunc) (by':=8) Tryz.underlying82 (by kernel_rfl) rfl (by decide)
def Enters (f:Nat):Prop:=∀ args w,(callFunc f args).run Tryz.prog w = .ok (.enter f args) w
theorem rd_fn {w:World} {S:Nat→Prop} {lv:Value} {l:List Fv} (h:Rd kdFn w S lv l) {i:Nat} {x:Fv} (hx:l[i]? = some x):∃ g o cap,lv = .slice (some ⟨g,o,none⟩) l.length cap∧w.cell? ⟨g,o+i,none⟩=some x.v:=by
 obtain ⟨g,o,cap,t,rfl,rfl, -, -,hc, -⟩:=h.at hx
 refine ⟨g,o,cap,rfl,?_⟩
 have:=hc 0 _ rfl
 rw [Nat.add_zero,show kdFn.sz=1 from rfl,Nat.mul_one] at this
 exact this
def Ran (Good:World→Prop) (Bad:Int→World→Prop) (e:Ending) (w':World):Prop:=(e = .returned (.int .i64 0)∧Good w')∨∃ c:Int,c≠0∧e = .returned (.int .i64 c)∧Bad c w'
set_option maxRecDepth 100000 in
set_option maxHeartbeats 2000000 in
theorem srun_any {w:World} {lv:Value} {l:List Fv} {I:Nat→World→Prop} {Bad:Int→World→Prop} (h0:I 0 w) (hr:∀ i w',I i w'→∃ S,Rd kdFn w' S lv l) (hl:l.length≤1000) (he:∀ x∈l,Enters x.f)
  (hs:∀ i x w',l[i]? = some x→I i w'→Calls Tryz.prog x.f x.caps w' (Ran (I (i+1)) Bad)) :
  Calls Tryz.prog 41 #[lv] w (Ran (I l.length) Bad):=by
 obtain ⟨S0,hS0⟩:=hr 0 w h0
 obtain ⟨la,lc,rfl,_⟩:=hS0.shape
 obtain ⟨n,hn⟩:∃ n,n=l.length:=⟨_,rfl⟩
 rw [← hn] at hr hl ⊢
 have HH:=Lib.hid (anZ hr (anZ hn (anZ he (anZ hs h0))))
 clear hr hn he hs h0 hS0
 go_enter Tryz.func41,Tryz.ntmps41
 go_wp2_with fail
 go_loopw [8] (fun i wr=>∃ r:Nat,r≤n∧i = .int .i64 (r:Int)∧I r wr) (fun i _=>n-(intOf i).toNat)
 case atStart=>exact ⟨0,Nat.zero_le _,rfl,HH.out.2.2.2.2⟩
 case round =>
  obtain ⟨r,hrn,rfl,hI⟩:=hrel
  obtain ⟨hr,hn,he,hs,h0⟩:=HH.out
  by_cases hlt:r < n
  ·obtain ⟨x,hx⟩:∃ x,l[r]? = some x:=⟨_,List.getElem?_eq_getElem (by omega)⟩
   obtain ⟨S,hS⟩:=hr r _ hI
   obtain ⟨g,o,cap,e0,hc⟩:=rd_fn hS hx
   rw [← hn] at e0
   simp only [Value.slice.injEq] at e0
   obtain ⟨rfl, -,rfl⟩:=e0
   have hent:=he x (List.mem_of_getElem? hx)
   have hcall:=hs r x wr hx hI
   obtain ⟨xf,xc⟩:=x
   simp only [Fv.v] at hc
   simp only at hent hcall
   have hil:(r:Int) < (n:Int):=by omega
   have hr0:(0:Int)≤(r:Int):=by omega
   unfold Enters at hent
   clear hr hn he hs h0 hS hx hI
   go_wp2_with fail
   refine hcall.mono ?_
   clear hcall hent hc
   rintro e w2 (⟨rfl,hI2⟩ | ⟨c,hc0,rfl,hB⟩)
   ·have HI:=Lib.hid (anZ hI2 (show r+1≤n from hlt))
    clear hI2 hrn hlt
    go_wp2
    go_roundw
    case rel=>exact ⟨r+1,HI.out.2,by go_num,HI.out.1⟩
    case measure =>
     have:=HI.out.2
     simp [intOf]; omega
   ·have HB:=Lib.hid hB
    have hc1:¬ c=0:=hc0
    clear hB hrn
    go_wp2
    go_ret
    exact .inr ⟨c,hc1,rfl,HB.out⟩
  ·obtain rfl:r=n:=by omega
   have hil:¬ (r:Int) < (r:Int):=by omega
   have HI:=Lib.hid hI
   clear hI hr hn he hs h0 hrn hlt
   go_wp2
   go_ret
   exact .inl ⟨rfl,HI.out⟩
end Go.Proofs.YtgkofgifoiinkaaGreat
namespace Go.Proofs.YtgkofgifoiinkaaGreat
open Go.RowKit
def Chain (Keep:World→Prop) (Bad:Int→World→Prop):List Fv→(World→Prop)→(World→Prop)→Prop
 | [],A,B=>∀ w,A w→Keep w∧B w
 | x::r,A,B=>(∀ w,A w→Keep w)∧Enters x.f∧∃ M:World→Prop,(∀ w,A w→Calls Tryz.prog x.f x.caps w (Ran M Bad))∧Chain Keep Bad r M B
section
variable {Keep:World→Prop} {Bad:Int→World→Prop}
theorem Chain.append:∀ {l r:List Fv} {A M B:World→Prop},Chain Keep Bad l A M→Chain Keep Bad r M B→Chain Keep Bad (l++r) A B
 | [],[],A,M,B,h,k=>fun w hA=>k w (h w hA).2
 | [],x::r,A,M,B,h,k=>⟨fun w hA=>(h w hA).1,k.2.1,let ⟨M',h1,h2⟩:=k.2.2; ⟨M',fun w hA=>h1 w (h w hA).2,h2⟩⟩
 | x::l,r,A,M,B,h,k=>⟨h.1,h.2.1,let ⟨M',h1,h2⟩:=h.2.2; ⟨M',h1,h2.append k⟩⟩
theorem Chain.mids:∀ {l:List Fv} {A B:World→Prop},Chain Keep Bad l A B→∃ I:Nat→World→Prop,(∀ w,A w→I 0 w)∧(∀ w,I l.length w→B w)∧(∀ i w,I i w→Keep w)∧(∀ x∈l,Enters x.f) ∧
  ∀ i x w,l[i]? = some x→I i w→Calls Tryz.prog x.f x.caps w (Ran (I (i+1)) Bad)
 | [],A,B,h=>⟨fun i w=>i=0∧A w,fun w hA=>⟨rfl,hA⟩,fun w hw=>(h w hw.2).2,fun i w hw=>(h w hw.2).1,(fun x hx=>by cases hx),(fun i x w hx=>by cases hx)⟩
 | x::r,A,B,h=>by
  obtain ⟨h1,h2,M,h3,h4⟩:=h
  obtain ⟨I,k1,k2,k3,k4,k5⟩:=h4.mids
  refine ⟨fun i w=>match i with | 0=>A w | j+1=>I j w,fun w hA=>hA,fun w hw=>k2 w hw,fun i w hw=>?_,fun y hy=>?_,fun i y w hy hw=>?_⟩
  ·cases i with
   | zero=>exact h1 w hw
   | succ j=>exact k3 j w hw
  ·rcases List.mem_cons.1 hy with rfl | hy
   ·exact h2
   ·exact k4 y hy
  ·cases i with
   | zero =>
    cases hy
    refine (h3 w hw).mono ?_
    rintro e w' (⟨he,hm⟩ | hb)
    ·exact .inl ⟨he,k1 w' hm⟩
    ·exact .inr hb
   | succ j=>exact k5 j y w hy hw
theorem srun_chain {w:World} {lv:Value} {l:List Fv} {A B:World→Prop} (h:Chain Keep Bad l A B) (hA:A w) (hr:∀ w',Keep w'→∃ S,Rd kdFn w' S lv l) (hl:l.length≤1000) :
  Calls Tryz.prog 41 #[lv] w (Ran B Bad):=by
 obtain ⟨I,k1,k2,k3,k4,k5⟩:=h.mids
 refine (srun_any (I:=I) (k1 w hA) (fun i w' hI=>hr w' (k3 i w' hI)) hl k4 k5).mono ?_
 rintro e w' (⟨he,hm⟩ | hb)
 ·exact .inl ⟨he,k2 w' hm⟩
 ·exact .inr hb
end
end Go.Proofs.YtgkofgifoiinkaaGreat
namespace Go.Proofs.YtgkofgifoiinkaaGreat
open Go.RowKit
section
variable {P:Program} {fn:Func} {p u x:Tmp} {ty t:TypeId} {tmps:Array Value} {w:World} {g:Nat} {cs:Array Value} {fr:Nat × Nat} {d:TypeDesc}
theorem results_cell1 (h:fn.results = #[.cell p ty]) (hp:tmps.getD p undef = .pointer (some ⟨g,0,none⟩)) (hg:w.heap[g]? = some (.cells cs t fr))
  (hu:P.underlying ty=some d) (hd:(match d with | .struct _ | .array _ _=>true | _=>false)=true) (hi:(P.info? ty).map (·.size)=some cs.size):(results fn tmps).run P w = .ok (.agg cs) w :=
 results_cell_row h tmps w g t cs fr d hp hg hu hd hi
theorem tresults_cell2 (h:fn.results = #[.cell p ty, .tmp u]) (hp:tmps.getD p undef = .pointer (some ⟨g,0,none⟩)) (hg:w.heap[g]? = some (.cells cs t fr))
  (hu:P.underlying ty=some d) (hd:(match d with | .struct _ | .array _ _=>true | _=>false)=true) (hi:(P.info? ty).map (·.size)=some cs.size):(results fn tmps).run P w = .ok (.tuple #[.agg cs,tmps.getD u undef]) w:=by
 rw [results_cell_tmp h,hp]
 simp [asAddr,run_loadVar_row w g t ty cs fr d hg hu hd hi]
theorem results_cell3 (h:fn.results = #[.cell p ty, .tmp u, .tmp x]) (hp:tmps.getD p undef = .pointer (some ⟨g,0,none⟩)) (hg:w.heap[g]? = some (.cells cs t fr))
  (hu:P.underlying ty=some d) (hd:(match d with | .struct _ | .array _ _=>true | _=>false)=true) (hi:(P.info? ty).map (·.size)=some cs.size):(results fn tmps).run P w = .ok (.tuple #[.agg cs,tmps.getD u undef,tmps.getD x undef]) w:=by
 have hp':tmps[p]?.getD undef = .pointer (some ⟨g,0,none⟩):=by simpa using hp
 simp only [results,h]
 simp [hp',asAddr,run_loadVar_row w g t ty cs fr d hg hu hd hi]
end
end Go.Proofs.YtgkofgifoiinkaaGreat
namespace Go.Proofs.YtgkofgifoiinkaaGreat
open Go.RowKit
set_option maxRecDepth 20000 in
set_option maxHeartbeats 400000 in
theorem order_any {a b:Value} {l m:List UInt8} (w:World) (ha:Bs w a l) (hb:Bs w b m) :
  Calls Tryz.prog 132 #[a,b] w fun e w'=>e = .returned (.int .i64 (Lib.compareBytes l m))∧w=w':=by
 have hr:=run_compare_bs (P:=Tryz.prog) w ha hb
 go_enter Tryz.func132,Tryz.ntmps132
 go_wp2
 rw [run_callFunc_extern Tryz.func199 (by kernel_rfl) (by kernel_rfl) (by kernel_rfl) (e:=Extern.BytealgCompare.compare) (by kernel_rfl),hr]
 simp only [Result.andThen]
 rw [Oper.upon_value]
 go_wp2
 go_ret
 exact ⟨rfl,rfl⟩
end Go.Proofs.YtgkofgifoiinkaaGreat
namespace Go.Proofs.YtgkofgifoiinkaaGreat
open Go.RowKit
theorem order_cmp {a b:Value} {l m:Bytes} (w:World) (ha:Bs w a l) (hb:Bs w b m) :
  Calls Tryz.prog 132 #[a,b] w fun e w'=>e = .returned (.int .i64 (cmp l m))∧w=w':=order_any w ha hb
theorem cmp3 (l m:Bytes):cmp l m = -1∨cmp l m=0∨cmp l m=1:=cmp_three l m
def mayK (l:Bytes):Bool:=decide (1≤l.length∧l.length≤32)
def mayV (l:Bytes):Bool:=decide (l.length≤128)
theorem mayKey_any {v:Value} {l:Bytes} (w:World) (h:Bs w v l):Calls Tryz.prog 130 #[v] w fun e w'=>e = .returned (.bool (mayK l))∧w=w':=by
 obtain ⟨a,c,rfl,_⟩:=h.shape
 have hl:=h.len
 clear h
 unfold mayK
 by_cases h1:l.length < 1
 ·have e1:decide (1≤l.length∧l.length≤32)=false:=by simp; omega
  have hi:(l.length:Int) < 1:=by omega
  rw [e1]
  clear h1 e1
  go_enter Tryz.func130,Tryz.ntmps130
  go_wp2
  go_ret
  exact ⟨rfl,rfl⟩
 ·have e1:decide (1≤l.length∧l.length≤32)=decide ((l.length:Int)≤32):=by rw [decide_eq_decide]; omega
  have hi:(1:Int)≤(l.length:Int):=by omega
  rw [e1]
  clear h1 e1
  go_enter Tryz.func130,Tryz.ntmps130
  go_wp2
  go_ret
  exact ⟨rfl,rfl⟩
theorem mayValue_any {v:Value} {l:Bytes} (w:World) (h:Bs w v l):Calls Tryz.prog 131 #[v] w fun e w'=>e = .returned (.bool (mayV l))∧w=w':=by
 obtain ⟨a,c,rfl,_⟩:=h.shape
 clear h
 have e1:mayV l=decide ((l.length:Int)≤128):=by unfold mayV; rw [decide_eq_decide]; omega
 rw [e1]
 go_enter Tryz.func131,Tryz.ntmps131
 go_wp2
 go_ret
 exact ⟨rfl,rfl⟩
def aheadB (k e:Bytes):Bool:=decide (e.length=0) || decide (cmp k e < 0)
theorem ahead_any {v x:Value} {l m:Bytes} (w:World) (h:Bs w v l) (hx:Bs w x m):Calls Tryz.prog 191 #[v,x] w fun e w'=>e = .returned (.bool (aheadB l m))∧w=w':=by
 have O:=order_cmp w h hx
 obtain ⟨a,c,rfl,_⟩:=h.shape
 obtain ⟨b,d,rfl,_⟩:=hx.shape
 unfold aheadB
 by_cases h0:m.length=0
 ·have hi:((m.length:Int) == 0)=true:=by rw [h0]; rfl
  rw [decide_eq_true h0,Bool.true_or]
  clear h hx h0 O
  go_enter Tryz.func191,Tryz.ntmps191
  go_wp2
  go_ret
  exact ⟨rfl,rfl⟩
 ·have hi:((m.length:Int) == 0)=false:=by rw [beq_eq_false_iff_ne]; omega
  rw [decide_eq_false h0,Bool.false_or]
  clear h hx h0
  go_enter Tryz.func191,Tryz.ntmps191
  go_wp2_with fail
  refine O.mono ?_
  rintro e w1 ⟨rfl,rfl⟩
  clear O
  go_wp2
  go_ret
  exact ⟨rfl,rfl⟩
theorem find1_any {k v:Value} {p:Int} {l m:Bytes} {x:Value} (w:World) (h:Bs w k l) (hx:Bs w x m) :
  Calls Tryz.prog 226 #[.agg #[k,v, .int .i64 p],x] w fun e w'=>e = .returned (.int .i64 (cmp l m))∧Below w.heap.size w w':=by
 have hb:Below w.heap.size w (w.alloc (.cells #[k,v, .int .i64 p] 197)):=(Below.refl _ _).alloc (Nat.le_refl _) _
 have O:=order_cmp _ (h.below hb) (hx.below hb)
 have HB:=Lib.hid hb
 clear hb h hx
 go_enter Tryz.func226,Tryz.ntmps226
 go_wp2_with fail
 refine O.mono ?_
 rintro e w1 ⟨rfl,rfl⟩
 clear O
 go_wp2
 go_ret
 exact ⟨rfl,HB.out⟩
theorem least_any {p l:Int} {ev tv:Value} {S:Nat→Prop} {es:List En} {a:En} (w:World) (h:Rd kdEn w S ev es) (ha:es[0]? = some a) :
  Calls Tryz.prog 202 #[ndv p l ev tv] w fun e w'=>∃ v,e = .returned v∧Bsf w' S v a.key∧Below w.heap.size w w':=by
 obtain ⟨g,o,cap,ka,kc,va,vc,rfl,hg,c0,c1,c2,hk,hv⟩:=h.ent ha
 have hlt:=(List.getElem?_eq_some_iff.1 ha).1
 have hl:(0:Int) < (es.length:Int):=by omega
 rw [Nat.zero_mul,Nat.add_zero] at c0
 have hb:Below w.heap.size w (w.alloc (.cells #[.int .i64 p, .int .i64 l, .slice (some ⟨g,o,none⟩) es.length cap,tv] 179)):=(Below.refl _ _).alloc (Nat.le_refl _) _
 have HH:=Lib.hid (anZ hk hb)
 clear h hk hv ha hb c1 c2
 go_enter Tryz.func202,Tryz.ntmps202
 go_wp2
 go_ret
 exact ⟨_,rfl,HH.out.1.step (Step.of_below HH.out.2 S),HH.out.2⟩
theorem tgreatest_any {p l:Int} {ev tv:Value} {S:Nat→Prop} {es:List En} {k:Nat} {a:En} (w:World) (h:Rd kdEn w S ev es) (hk:es.length=k+1) (ha:es[k]? = some a) :
  Calls Tryz.prog 209 #[ndv p l ev tv] w fun e w'=>∃ v,e = .returned v∧Bsf w' S v a.key∧Below w.heap.size w w':=by
 obtain ⟨g,o,cap,ka,kc,va,vc,rfl,hg,c0,c1,c2,hka,hv⟩:=h.ent ha
 have hle:=h.len
 rw [hk] at hle
 have hi:((k:Int)+1)-1=k:=by omega
 have h1:(k:Int) < (k:Int)+1:=by omega
 have hb:Below w.heap.size w (w.alloc (.cells #[.int .i64 p, .int .i64 l, .slice (some ⟨g,o,none⟩) es.length cap,tv] 179)):=(Below.refl _ _).alloc (Nat.le_refl _) _
 rw [hk] at hb ⊢
 have HH:=Lib.hid (anZ hka hb)
 clear h hka hv ha hb c1 c2 hk
 go_enter Tryz.func209,Tryz.ntmps209
 go_wp2
 go_ret
 exact ⟨_,rfl,HH.out.1.step (Step.of_below HH.out.2 S),HH.out.2⟩
def endK (es:List En) (toZ:Bytes) (i:Nat):Bytes:=match es[i+1]? with | some e=>e.key | none=>toZ
theorem end_any {p l:Int} {ev tv:Value} {S:Nat→Prop} {es:List En} {toZ:Bytes} (i:Nat) (w:World) (h:Rd kdEn w S ev es) (ht:Bsf w S tv toZ) (hi:i < es.length) :
  Calls Tryz.prog 208 #[ndv p l ev tv, .int .i64 (i:Int)] w fun e w'=>∃ v,e = .returned v∧Bsf w' S v (endK es toZ i)∧Below w.heap.size w w':=by
 have hle:=h.len
 unfold endK
 rcases he:es[i+1]? with _ | a
 ·have h1:=List.getElem?_eq_none_iff.1 he
  obtain ⟨ea,ec,rfl,_⟩:=h.shape
  obtain ⟨ta,tc,rfl,_⟩:=ht.1.shape
  have hd:decide ((i:Int)+1 < (es.length:Int))=false:=by simp; omega
  have hii:(i:Int)+1≤9223372036854775807:=by omega
  have hb:Below w.heap.size w (w.alloc (.cells #[.int .i64 p, .int .i64 l, .slice ea es.length ec, .slice ta toZ.length tc] 179)):=(Below.refl _ _).alloc (Nat.le_refl _) _
  have HH:=Lib.hid (anZ ht hb)
  clear h ht he hb h1
  go_enter Tryz.func208,Tryz.ntmps208
  go_wp2
  go_ret
  exact ⟨_,rfl,HH.out.1.step (Step.of_below HH.out.2 S),HH.out.2⟩
 ·have h1:=(List.getElem?_eq_some_iff.1 he).1
  obtain ⟨g,o,cap,ka,kc,va,vc,rfl,hg,c0,c1,c2,hka,hv⟩:=h.ent he
  have hd:(i:Int)+1 < (es.length:Int):=by omega
  have hii:(i:Int)+1≤9223372036854775807:=by omega
  have hb:Below w.heap.size w (w.alloc (.cells #[.int .i64 p, .int .i64 l, .slice (some ⟨g,o,none⟩) es.length cap,tv] 179)):=(Below.refl _ _).alloc (Nat.le_refl _) _
  have HH:=Lib.hid (anZ hka hb)
  clear h ht he hb h1 hka hv c1 c2
  go_enter Tryz.func208,Tryz.ntmps208
  go_wp2
  go_ret
  exact ⟨_,rfl,HH.out.1.step (Step.of_below HH.out.2 S),HH.out.2⟩
def loneB (lvl n:Nat):Bool:=decide (0 < lvl) && decide (n < 2)
theorem lone_any {p:Int} {lvl:Nat} {ev tv:Value} {S:Nat→Prop} {es:List En} (w:World) (h:Rd kdEn w S ev es) :
  Calls Tryz.prog 170 #[ndv p (lvl:Int) ev tv] w fun e w'=>e = .returned (.bool (loneB lvl es.length))∧Below w.heap.size w w':=by
 obtain ⟨ea,ec,rfl,_⟩:=h.shape
 have hb:Below w.heap.size w (w.alloc (.cells #[.int .i64 p, .int .i64 (lvl:Int), .slice ea es.length ec,tv] 179)):=(Below.refl _ _).alloc (Nat.le_refl _) _
 have HB:=Lib.hid hb
 clear hb h
 unfold loneB
 rcases Nat.eq_zero_or_pos lvl with e | e
 ·subst e
  go_enter Tryz.func170,Tryz.ntmps170
  go_wp2
  go_ret
  exact ⟨rfl,HB.out⟩
 ·have h1:(0:Int) < (lvl:Int):=by omega
  rw [decide_eq_true e,Bool.true_and,show decide (es.length < 2)=decide ((es.length:Int) < 2) by rw [decide_eq_decide]; omega]
  clear e
  go_enter Tryz.func170,Tryz.ntmps170
  go_wp2
  go_ret
  exact ⟨rfl,HB.out⟩
theorem esize_any {k v:Value} {p:Int} {lvl:Nat} (en:En) (w:World) (hk:Bs w k en.key) (hv:Bs w v en.val) (h1:en.key.length≤65535) (h2:en.val.length≤65535) :
  Calls Tryz.prog 171 #[.agg #[k,v, .int .i64 p], .int .i64 (lvl:Int)] w fun e w'=>e = .returned (.int .i64 (esize lvl en:Nat))∧Below w.heap.size w w':=by
 obtain ⟨a,c,rfl,_⟩:=hk.shape
 obtain ⟨b,d,rfl,_⟩:=hv.shape
 have hb:Below w.heap.size w (w.alloc (.cells #[.slice a en.key.length c, .slice b en.val.length d, .int .i64 p] 197)):=(Below.refl _ _).alloc (Nat.le_refl _) _
 have HB:=Lib.hid hb
 clear hb hk hv
 unfold esize
 by_cases hl:lvl=0
 ·subst hl
  rw [if_pos rfl]
  generalize en.key.length=x at *
  generalize en.val.length=y at *
  have e1:((4+x+y:Nat):Int)=4+(x:Int)+(y:Int):=by omega
  rw [e1]
  clear e1
  go_enter Tryz.func171,Tryz.ntmps171
  go_wp2
  go_ret
  exact ⟨rfl,HB.out⟩
 ·have h0:((lvl:Int) == 0)=false:=by rw [beq_eq_false_iff_ne]; omega
  rw [if_neg hl]
  generalize en.key.length=x at *
  generalize en.val.length=y at *
  have e1:((6+x:Nat):Int)=6+(x:Int):=by omega
  rw [e1]
  clear e1 hl
  go_enter Tryz.func171,Tryz.ntmps171
  go_wp2
  go_ret
  exact ⟨rfl,HB.out⟩
theorem nowhere_any (w:World):Calls Tryz.prog 133 #[] w fun e w'=>e = .returned (ndv (-1) 0 (.slice none 0 0) (.slice none 0 0))∧Below w.heap.size w w':=by
 go_enter Tryz.func133,Tryz.ntmps133
 go_wp2
 refine bodyPost_ret (results_cell1 (g:=w.heap.size) rfl rfl (heap_alloc_new _ _) Tryz.underlying179 rfl (by kernel_rfl)) rfl ⟨rfl,(Below.refl _ _).alloc (Nat.le_refl _) _⟩
abbrev spv (fv tv:Value):Value:=.agg #[fv,tv]
def hasB (k f t:Bytes):Bool:=decide (0≤cmp k f) && aheadB k t
theorem has_any {fv tv v:Value} {k f t:Bytes} (w:World) (hf:Bs w fv f) (ht:Bs w tv t) (hk:Bs w v k) :
  Calls Tryz.prog 150 #[spv fv tv,v] w fun e w'=>e = .returned (.bool (hasB k f t))∧Below w.heap.size w w':=by
 have hb:Below w.heap.size w (w.alloc (.cells #[fv,tv] 176)):=(Below.refl _ _).alloc (Nat.le_refl _) _
 have O:=order_cmp _ (hk.below hb) (hf.below hb)
 have A:=ahead_any _ (hk.below hb) (ht.below hb)
 have HB:=Lib.hid hb
 clear hb hf ht hk
 unfold hasB
 have h3:=cmp3 k f
 by_cases h:0≤cmp k f
 ·have hi:(0:Int)≤cmp k f:=h
  rw [decide_eq_true h,Bool.true_and]
  clear h h3
  generalize cmp k f=c at *
  generalize aheadB k t=d at *
  go_enter Tryz.func150,Tryz.ntmps150
  go_wp2_with fail
  refine O.mono ?_
  rintro e w1 ⟨rfl,rfl⟩
  clear O
  go_wp2_with fail
  refine A.mono ?_
  rintro e w1 ⟨rfl,rfl⟩
  clear A
  go_wp2
  go_ret
  exact ⟨rfl,HB.out⟩
 ·rw [decide_eq_false h,Bool.false_and]
  have hi:cmp k f = -1:=by omega
  rw [hi] at O
  clear h h3 hi A
  go_enter Tryz.func150,Tryz.ntmps150
  go_wp2_with fail
  refine O.mono ?_
  rintro e w1 ⟨rfl,rfl⟩
  clear O
  go_wp2
  go_ret
  exact ⟨rfl,HB.out⟩
def Few (es:List En):Prop:=∀ e∈es,e.key.length≤65535∧e.val.length≤65535
theorem Few.esize {lvl:Nat} {es:List En} (h:Few es):∀ e∈es,esize lvl e≤131080:=by
 intro e he
 have:=h e he
 unfold Go.Proofs.YtgkofgifoiinkaaGreat.esize
 split <;> omega
end Go.Proofs.YtgkofgifoiinkaaGreat
namespace Go.Proofs.YtgkofgifoiinkaaGreat
open Go.RowKit
set_option maxHeartbeats 400000 in
theorem bsearch_any {ev kv:Value} {S:Nat→Prop} {es:List En} {key:Bytes} (w:World) (h:Rd kdEn w S ev es) (hk:Bs w kv key) (hr:RiseE es) (hn:es.length≤4294967296) :
  Calls Tryz.prog 225 #[ev,kv, .func (.func 226) #[] #[]] w
   fun e w'=>e = .returned (.tuple #[.int .i64 (fnd es key:Nat), .bool (fndIs es key)])∧Below w.heap.size w w':=by
 obtain ⟨ea,ec,rfl,_⟩:=h.shape
 have HH:=Lib.hid (anZ h (anZ hk hr))
 clear h hk hr
 go_enter Tryz.func225,Tryz.ntmps225
 go_wp2
 go_loopw [9,10] (fun i j wr=>∃ p q:Nat,p≤q∧q≤es.length∧i = .int .i64 p∧j = .int .i64 q∧(∀ (r:Nat) (a:En),r < p→es[r]? = some a→cmp a.key key < 0)∧(∀ (r:Nat) (a:En),q≤r→es[r]? = some a→0≤cmp a.key key)∧Below w.heap.size w wr)
  (fun i j _=>(intOf j).toNat-(intOf i).toNat)
 case atStart=>exact ⟨0,es.length,Nat.zero_le _,Nat.le_refl _,rfl,rfl,fun r a h=>absurd h (Nat.not_lt_zero _),fun r a h1 h2=>absurd (List.getElem?_eq_some_iff.1 h2).1 (by omega),Below.refl _ _⟩
 case round =>
  obtain ⟨p,q,hpq,hq,rfl,rfl,hlo,hhi,hbw⟩:=hrel
  by_cases hlt:p < q
  ·have hil:(p:Int) < (q:Int):=by omega
   obtain ⟨a,ha⟩:∃ a,es[(p+q) / 2]? = some a:=⟨_,List.getElem?_eq_getElem (by omega)⟩
   have hrd:=HH.out.1.step (Step.of_below hbw S)
   obtain ⟨g,o,cap,ka,kc,va,vc,e0,hg,c0,c1,c2,hka,hva⟩:=hrd.ent ha
   simp only [Value.slice.injEq] at e0
   obtain ⟨rfl,_,rfl⟩:=e0
   have F:=find1_any (k:=.slice ka a.key.length kc) (v:=.slice va a.val.length vc) (p:=(a.page:Nat)) wr hka.1 (HH.out.2.1.below hbw)
   have hm1:((p+q) / 2:Nat) < es.length:=by omega
   have hme:(((p+q) / 2:Nat):Int)=((p:Int)+(q:Int)) / 2:=by omega
   have H1:=Lib.hid (anZ hlo (anZ hhi (anZ hbw (anZ ha hme))))
   clear hrd hka hva hlo hhi hbw ha hme
   by_cases hc:cmp a.key key < 0
   ·generalize hx:cmp a.key key=x at *
    have HC:=Lib.hid hx
    clear hx
    go_wp2_with fail
    refine F.mono ?_
    rintro e w1 ⟨rfl,hb1⟩
    clear F
    have H2:=Lib.hid hb1
    have H3:=Lib.hid hc
    clear hb1
    go_wp2
    go_roundw
    case rel =>
     obtain ⟨hlo,hhi,hbw,ha,hme⟩:=H1.out
     refine ⟨(p+q) / 2+1,q,by omega,hq,by rw [← hme]; go_num,rfl,fun r b hr hb=>?_,hhi,hbw.trans (H2.out.mono hbw.size)⟩
     have hc:=H3.out
     rw [← HC.out] at hc
     by_cases e:r=(p+q) / 2
     ·subst e
      rw [ha] at hb
      cases hb
      exact hc
     ·exact cmp_ltt (HH.out.2.2.lt hb ha (by omega)) hc
    case measure=>simp [intOf]; omega
   ·generalize hx:cmp a.key key=x at *
    have HC:=Lib.hid hx
    clear hx
    have hx0:(0:Int)≤x:=by omega
    have H3:=Lib.hid hx0
    clear hc
    go_wp2_with fail
    refine F.mono ?_
    rintro e w1 ⟨rfl,hb1⟩
    clear F
    have H2:=Lib.hid hb1
    clear hb1
    go_wp2
    go_roundw
    case rel =>
     obtain ⟨hlo,hhi,hbw,ha,hme⟩:=H1.out
     refine ⟨p,(p+q) / 2,by omega,by omega,rfl,by rw [← hme],hlo,fun r b hr hb=>?_,hbw.trans (H2.out.mono hbw.size)⟩
     have hc:=H3.out
     rw [← HC.out] at hc
     by_cases e:r=(p+q) / 2
     ·subst e
      rw [ha] at hb
      cases hb
      exact hc
     ·have:=HH.out.2.2.lt ha hb (by omega)
      by_cases hn:cmp b.key key < 0
      ·have:=cmp_ltt this hn
       omega
      ·omega
    case measure=>simp [intOf]; omega
  ·obtain rfl:p=q:=by omega
   have hf:=fnd_of hlo (fun e he=>hhi p e (Nat.le_refl _) he) hq
   rcases ha:es[p]? with _ | a
   ·have hI:fndIs es key=false:=by unfold fndIs; rw [hf,ha]
    have HF:=Lib.hid (anZ hf hI)
    clear hf hI
    have h1:=List.getElem?_eq_none_iff.1 ha
    have hd:¬ ((p:Int) < (es.length:Int)):=by omega
    have HB:=Lib.hid hbw
    clear hlo hhi hbw ha h1
    go_wp2
    go_ret2
    exact ⟨by rw [HF.out.1,HF.out.2]; rfl,HB.out⟩
   ·have hI:fndIs es key=decide (cmp a.key key=0):=by unfold fndIs; rw [hf,ha]
    have h1:=(List.getElem?_eq_some_iff.1 ha).1
    have hd:(p:Int) < (es.length:Int):=by omega
    have hrd:=HH.out.1.step (Step.of_below hbw S)
    obtain ⟨g,o,cap,ka,kc,va,vc,e0,hg,c0,c1,c2,hka,hva⟩:=hrd.ent ha
    simp only [Value.slice.injEq] at e0
    obtain ⟨rfl,_,rfl⟩:=e0
    have F:=find1_any (k:=.slice ka a.key.length kc) (v:=.slice va a.val.length vc) (p:=(a.page:Nat)) wr hka.1 (HH.out.2.1.below hbw)
    have HB:=Lib.hid hbw
    generalize cmp a.key key=x at *
    have HF:=Lib.hid (anZ hf hI)
    clear hf hI hrd hka hva hlo hhi hbw ha
    go_wp2_with fail
    refine F.mono ?_
    rintro e w1 ⟨rfl,hb1⟩
    clear F
    have H2:=Lib.hid hb1
    clear hb1
    go_wp2
    go_ret2
    refine ⟨?_,HB.out.trans (H2.out.mono HB.out.size)⟩
    rw [HF.out.1,HF.out.2]
    rfl
theorem tfind_any {p l:Int} {ev tv kv:Value} {S:Nat→Prop} {es:List En} {key:Bytes} (w:World) (h:Rd kdEn w S ev es) (hk:Bs w kv key) (hr:RiseE es) (hn:es.length≤4294967296) :
  Calls Tryz.prog 224 #[ndv p l ev tv,kv] w fun e w'=>e = .returned (.tuple #[.int .i64 (fnd es key:Nat), .bool (fndIs es key)])∧Below w.heap.size w w':=by
 have hb:Below w.heap.size w (w.alloc (.cells #[.int .i64 p, .int .i64 l,ev,tv] 179)):=(Below.refl _ _).alloc (Nat.le_refl _) _
 have B:=bsearch_any _ (h.step (Step.of_below hb S)) (hk.below hb) hr hn
 have HB:=Lib.hid hb
 clear hb h hk
 go_enter Tryz.func224,Tryz.ntmps224
 go_wp2_with fail
 refine B.mono ?_
 rintro e w1 ⟨rfl,b1⟩
 clear B
 have H1:=Lib.hid b1
 clear b1
 go_wp2
 go_ret2
 exact ⟨rfl,HB.out.trans (H1.out.mono HB.out.size)⟩
theorem way_any {p l:Int} {ev tv kv:Value} {S:Nat→Prop} {es:List En} {key:Bytes} (w:World) (h:Rd kdEn w S ev es) (hk:Bs w kv key) (hr:RiseE es) (hn:es.length≤4294967296) :
  Calls Tryz.prog 222 #[ndv p l ev tv,kv] w fun e w'=>e = .returned (.int .i64 (way es key:Nat))∧Below w.heap.size w w':=by
 have hb:Below w.heap.size w (w.alloc (.cells #[.int .i64 p, .int .i64 l,ev,tv] 179)):=(Below.refl _ _).alloc (Nat.le_refl _) _
 have B:=tfind_any (p:=p) (l:=l) (tv:=tv) _ (h.step (Step.of_below hb S)) (hk.below hb) hr hn
 have HB:=Lib.hid hb
 have hle:=fnd_le es key
 clear hb h hk
 unfold way
 generalize fnd es key=i at *
 generalize fndIs es key=c at *
 have hi:(i:Int)≤4294967296:=by omega
 rcases c with _ | _
 ·simp only [Bool.false_eq_true,if_false]
  rcases i with _ | i
  ·go_enter Tryz.func222,Tryz.ntmps222
   go_wp2_with fail
   refine B.mono ?_
   rintro e w1 ⟨rfl,b1⟩
   clear B
   have H1:=Lib.hid b1
   clear b1
   go_wp2
   go_ret
   exact ⟨rfl,HB.out.trans (H1.out.mono HB.out.size)⟩
  ·have e1:((i+1:Nat):Int)-1=(i:Int):=by omega
   have e2:max (i:Int) 0=(i:Int):=by omega
   rw [Nat.add_sub_cancel]
   go_enter Tryz.func222,Tryz.ntmps222
   go_wp2_with fail
   refine B.mono ?_
   rintro e w1 ⟨rfl,b1⟩
   clear B
   have H1:=Lib.hid b1
   clear b1
   go_wp2
   go_ret
   exact ⟨rfl,HB.out.trans (H1.out.mono HB.out.size)⟩
 ·simp only [if_true]
  have e2:max (i:Int) 0=(i:Int):=by omega
  go_enter Tryz.func222,Tryz.ntmps222
  go_wp2_with fail
  refine B.mono ?_
  rintro e w1 ⟨rfl,b1⟩
  clear B
  have H1:=Lib.hid b1
  clear b1
  go_wp2
  go_ret
  exact ⟨rfl,HB.out.trans (H1.out.mono HB.out.size)⟩
def meetsB (es:List En) (toZ:Bytes) (i:Nat) (f t:Bytes):Bool:=match es[i]? with
 | some e=>aheadB e.key t && (decide ((endK es toZ i).length=0) || decide (0 < cmp (endK es toZ i) f))
 | none=>false
set_option maxHeartbeats 1000000 in
theorem meets_any {p l:Int} {ev tv fv sv:Value} {S:Nat→Prop} {es:List En} {toZ f t:Bytes} (i:Nat) (w:World) (h:Rd kdEn w S ev es) (ht:Bsf w S tv toZ) (hf:Bs w fv f) (hs:Bs w sv t) (hi:i < es.length) :
  Calls Tryz.prog 180 #[ndv p l ev tv, .int .i64 (i:Int),spv fv sv] w fun e w'=>e = .returned (.bool (meetsB es toZ i f t))∧Below w.heap.size w w':=by
 obtain ⟨a,ha⟩:∃ a,es[i]? = some a:=⟨_,List.getElem?_eq_getElem hi⟩
 generalize hR:meetsB es toZ i f t=R
 unfold meetsB at hR
 rw [ha] at hR
 have HR:=Lib.hid hR
 clear hR
 have hle:=h.len
 have hil:(i:Int) < (es.length:Int):=by omega
 have hi0:(0:Int)≤(i:Int):=by omega
 obtain ⟨ea,ec,rfl,_⟩:=h.shape
 have hb:Below w.heap.size w ((w.alloc (.cells #[.int .i64 p, .int .i64 l, .slice ea es.length ec,tv] 179)).alloc (.cells #[fv,sv] 176)) :=
  ((Below.refl _ _).alloc (Nat.le_refl _) _).alloc (by simp) _
 have N:=end_any (p:=p) (l:=l) i _ (h.step (Step.of_below hb S)) (ht.step (Step.of_below hb S)) hi
 have z:((w.alloc (.cells #[.int .i64 p, .int .i64 l, .slice ea es.length ec,tv] 179)).alloc (.cells #[fv,sv] 176)).heap.size=w.heap.size+2:=by simp
 have d0:((w.alloc (.cells #[.int .i64 p, .int .i64 l, .slice ea es.length ec,tv] 179)).alloc (.cells #[fv,sv] 176)).cell? ⟨w.heap.size,2,none⟩=some (.slice ea es.length ec):=by
  rw [World.cell?_alloc_lt (h:=by simp)]
  simp
 have d1:((w.alloc (.cells #[.int .i64 p, .int .i64 l, .slice ea es.length ec,tv] 179)).alloc (.cells #[fv,sv] 176)).cell? ⟨w.heap.size+1,0,none⟩=some fv:=by
  rw [World.cell?_alloc_at (hn:=by simp)]
  rfl
 have d2:((w.alloc (.cells #[.int .i64 p, .int .i64 l, .slice ea es.length ec,tv] 179)).alloc (.cells #[fv,sv] 176)).cell? ⟨w.heap.size+1,1,none⟩=some sv:=by
  rw [World.cell?_alloc_at (hn:=by simp)]
  rfl
 have HH:=Lib.hid (anZ h (anZ hb (anZ z (anZ d0 (anZ d1 d2)))))
 have H2:=Lib.hid (anZ hf (anZ hs ha))
 clear h ht hf hs hb z d0 d1 d2 ha
 go_enter Tryz.func180,Tryz.ntmps180
 go_wp2_with fail
 refine N.mono ?_
 rintro e w1 ⟨xv,rfl,hx,hb1⟩
 clear N
 obtain ⟨h,hb,z,d0,d1,d2⟩:=HH.out
 obtain ⟨hf,hs,ha⟩:=H2.out
 have hbw:=hb.trans (hb1.mono (by omega))
 have c0:=(hb1.cell (p:=⟨w.heap.size,2,none⟩) (by show w.heap.size < _; omega)).trans d0
 have c1:=(hb1.cell (p:=⟨w.heap.size+1,0,none⟩) (by show w.heap.size+1 < _; omega)).trans d1
 have c2:=(hb1.cell (p:=⟨w.heap.size+1,1,none⟩) (by show w.heap.size+1 < _; omega)).trans d2
 have hrd:=h.step (Step.of_below hbw S)
 obtain ⟨g,o,cap,ka,kc,va,vc,e0,hg,k0,_,_,hka,_⟩:=hrd.ent ha
 simp only [Value.slice.injEq] at e0
 obtain ⟨rfl,_,rfl⟩:=e0
 obtain ⟨xa,xc,rfl,_⟩:=hx.1.shape
 have A:=fun n=>ahead_any (w1.drewN n) (hka.1.drewN n) ((hs.below hbw).drewN n)
 have O:=fun n=>order_cmp (w1.drewN n) (hx.1.drewN n) ((hf.below hbw).drewN n)
 have HB:=Lib.hid hbw
 have hlx:=hx.1.len
 clear h hb z d0 d1 d2 hf hs ha hb1 hbw hrd hka hx HH H2
 generalize endK es toZ i=x at *
 have h3:=cmp3 x f
 generalize cmp x f=y at *
 generalize aheadB a.key t=b at *
 have HA:=Lib.hid A
 have HO:=Lib.hid O
 clear A O
 rcases b with _ | _
 ·clear HO h3
  go_wp2_with fail
  go_quiet ((go_at_call 191; exact quiet_left (HA.out _)))
  go_wp2
  go_ret
  exact ⟨by rw [← HR.out]; rfl,below_drewN HB.out _⟩
 ·by_cases hx0:x.length=0
  ·have hi:((x.length:Int) == 0)=true:=by rw [hx0]; rfl
   have HX:=Lib.hid hx0
   clear HO hx0 h3
   go_wp2_with fail
   go_quiet ((go_at_call 191; exact quiet_left (HA.out _)))
   go_wp2
   go_ret
   exact ⟨by rw [← HR.out,HX.out]; rfl,below_drewN HB.out _⟩
  ·have hi:((x.length:Int) == 0)=false:=by rw [beq_eq_false_iff_ne]; omega
   have HX:=Lib.hid hx0
   clear hx0 h3
   go_wp2_with fail
   go_quiet (first | (go_at_call 191; exact quiet_left (HA.out _)) | (go_at_call 132; exact quiet_left (HO.out _)))
   go_wp2
   go_ret
   exact ⟨by rw [← HR.out,decide_eq_false HX.out]; rfl,below_drewN HB.out _⟩
end Go.Proofs.YtgkofgifoiinkaaGreat
namespace Go.Proofs.YtgkofgifoiinkaaGreat
open Go.RowKit
def sizeE (k:Int) (c:Nat):MapEntry:={ key:=.int .i64 k,val:=.bool true,born:=c }
theorem run_check_int (w:World) (em:Bool) (k:Int):(Instr.checkKey em 10000 3 (.int .i64 k)).run Tryz.prog w = .ok () w:=by
 rw [show (10000:Nat)=9999+1 from rfl,Instr.checkKey]
 simp [run_underlying Tryz.underlying3]
theorem run_find_int (w:World) (k:Int) (l:List MapEntry) (r:Option (Nat × Value)) (hn:Instr.findNow (.int .i64) (.int .i64 k) l 0=some r) :
  (Instr.findKey 3 (.int .i64 k) l).run Tryz.prog w = .ok r w:=by
 simp [Instr.findKey,run_underlying Tryz.underlying3,hn]
theorem setObj_new (w:World) (o o':Obj):({ w.alloc o with heap:=(w.alloc o).heap.setIfInBounds w.heap.size o' }:World)=w.alloc o':=by
 show ({ w with heap:=(w.heap.push o).setIfInBounds w.heap.size o' }:World)={ w with heap:=w.heap.push o' }
 congr 1
 apply Array.ext_getElem?
 intro j
 simp only [Array.getElem?_setIfInBounds,Array.getElem?_push,Array.size_push]
 by_cases h:w.heap.size=j
 ·subst h; simp
 ·simp [h,Ne.symm h]
theorem run_setObj_mapX {w:World} {r:Nat} {es:Array MapEntry} {clock:Nat} (o:Obj) (hb:w.heap[r]? = some (.map es clock)) :
  (setObj r o).run Tryz.prog w = .ok () { w with heap:=w.heap.setIfInBounds r o }:=by
 simp [setObj,Sem.run,hb]
theorem run_put_size (w:World) (es:Array MapEntry) (c:Nat) (k:Int) (hn:Instr.findNow (.int .i64) (.int .i64 k) es.toList 0=some none) :
  (Instr.mapUpdate 256 (.map (some w.heap.size)) (.int .i64 k) (.bool true)).run Tryz.prog (w.alloc (.map es c)) = .ok () (w.alloc (.map (es.push (sizeE k c)) (c+1))):=by
 have hm:(w.alloc (.map es c)).heap[w.heap.size]? = some (.map es c):=heap_alloc_new w _
 have h1:=run_getObj_map (P:=Tryz.prog) _ _ _ _ hm
 have h2:=run_setObj_mapX (.map (es.push (sizeE k c)) (c+1)) hm
 rw [setObj_new] at h2
 have h3:=run_check_int (w.alloc (.map es c)) false k
 have h4:=run_find_int (w.alloc (.map es c)) k es.toList none hn
 unfold Instr.mapUpdate
 simp only [Sem.run_bind,run_underlying Tryz.underlying256,Result.andThen,h1,h3,h4]
 exact h2
def mayB (n:Int):Bool:=n == 1 || n == 2 || n == 4 || n == 8
theorem run_look_size (w:World) (n:Int) :
  (Instr.lookup 256 (.map (some w.heap.size)) (.int .i64 n) false).run Tryz.prog (w.alloc (.map #[sizeE 1 0,sizeE 2 1,sizeE 4 2,sizeE 8 3] 4)) =
   .ok (.bool (mayB n)) (w.alloc (.map #[sizeE 1 0,sizeE 2 1,sizeE 4 2,sizeE 8 3] 4)):=by
 have hm:(w.alloc (.map #[sizeE 1 0,sizeE 2 1,sizeE 4 2,sizeE 8 3] 4)).heap[w.heap.size]? = some (.map #[sizeE 1 0,sizeE 2 1,sizeE 4 2,sizeE 8 3] 4):=heap_alloc_new w _
 have h1:=run_getObj_map (P:=Tryz.prog) _ _ _ _ hm
 generalize hW:w.alloc (.map #[sizeE 1 0,sizeE 2 1,sizeE 4 2,sizeE 8 3] 4)=W at *
 have h3:=run_check_int W (#[sizeE 1 0,sizeE 2 1,sizeE 4 2,sizeE 8 3]:Array MapEntry).isEmpty n
 have hf:∃ r,Instr.findNow (.int .i64) (.int .i64 n) [sizeE 1 0,sizeE 2 1,sizeE 4 2,sizeE 8 3] 0=some r∧(r=none∧mayB n=false∨∃ i,r=some (i, .bool true)∧mayB n=true):=by
  by_cases a1:n=1
  ·subst a1; exact ⟨_,rfl, .inr ⟨_,rfl,rfl⟩⟩
  by_cases a2:n=2
  ·subst a2; exact ⟨_,rfl, .inr ⟨_,rfl,rfl⟩⟩
  by_cases a3:n=4
  ·subst a3; exact ⟨_,rfl, .inr ⟨_,rfl,rfl⟩⟩
  by_cases a4:n=8
  ·subst a4; exact ⟨_,rfl, .inr ⟨_,rfl,rfl⟩⟩
  have b1:=beq_eq_false_iff_ne.2 a1
  have b2:=beq_eq_false_iff_ne.2 a2
  have b3:=beq_eq_false_iff_ne.2 a3
  have b4:=beq_eq_false_iff_ne.2 a4
  exact ⟨none,by simp [Instr.findNow,Instr.sameNow,sizeE,b1,b2,b3,b4], .inl ⟨rfl,by simp [mayB,a1,a2,a3,a4]⟩⟩
 obtain ⟨r,hr,hc⟩:=hf
 have h4:=run_find_int W n [sizeE 1 0,sizeE 2 1,sizeE 4 2,sizeE 8 3] r hr
 have h5:(zeroValue 4).run Tryz.prog W = .ok (.bool false) W:=by kernel_rfl
 unfold Instr.lookup
 simp only [Sem.run_bind,Sem.run_pure,run_underlying Tryz.underlying256,Result.andThen,h1,h3,h4]
 rcases hc with ⟨rfl,hb⟩ | ⟨i,rfl,hb⟩
 ·simp only [Sem.run_bind,Sem.run_pure,Result.andThen,h5,hb]
  rfl
 ·simp only [Sem.run_bind,Sem.run_pure,Result.andThen,hb]
  rfl
set_option maxHeartbeats 400000 in
theorem maySize_any (n:Int) (w:World) :
  Calls Tryz.prog 165 #[.int .i64 n] w fun e w'=>e = .returned (.bool (mayB n))∧Below w.heap.size w w':=by
 have hmm := @run_makeMap Tryz.prog
 have u1:=run_put_size w #[] 0 1 rfl
 have u2:=run_put_size w #[sizeE 1 0] 1 2 rfl
 have u3:=run_put_size w #[sizeE 1 0,sizeE 2 1] 2 4 rfl
 have u4:=run_put_size w #[sizeE 1 0,sizeE 2 1,sizeE 4 2] 3 8 rfl
 have u5:=run_look_size w n
 go_enter Tryz.func165,Tryz.ntmps165
 go_wp2
 go_ret
 exact ⟨rfl,(Below.refl _ _).alloc (Nat.le_refl _) _⟩
set_option maxHeartbeats 400000 in
theorem withRoom_any {b:Value} {l:List UInt8} (more:Nat) (w:World) (hb:Bs w b l) (hn:l.length+more≤1099511627776) :
  Calls Tryz.prog 175 #[b, .int .i64 (more:Int)] w (Gives w l):=by
 obtain ⟨a,cap,rfl,hb⟩:=hb.shape
 obtain ⟨w1,hr,ho,hg⟩:=run_make_bs bt w w.heap.size .i64 .i64 (l.length+more) (by omega) (Nat.le_refl _)
 have hbl:Below w.heap.size w w1:=(Below.refl _ _).grown hg (Nat.le_refl _) (fun _ h=>by cases h)
 have hb1:=hb.below hbl
 have hs:([]:List UInt8).length+l.length≤140737488355328:=by simp; omega
 have hz:=hbl.size
 rw [Int.natCast_add] at hr
 go_enter Tryz.func175,Tryz.ntmps175
 go_wp2_with (at_builtin; refine wpList_append_bs bt rfl _ _ rfl w.heap.size rfl rfl ho hb1 hs hz ?_; intro v2 w2 ho2 hg2)
 go_ret
 exact ⟨_,rfl,ho2,below_own hbl ho hg2⟩
set_option maxHeartbeats 400000 in
theorem putNumber_any {b:Value} {l:List UInt8} (base n k:Nat) (w:World) (ho:Ow w base 5 b l) (hl:l.length≤1099511627776) (hk:k≤8) (hbase:base≤w.heap.size) :
  Calls Tryz.prog 176 #[b, .int .u64 (n:Int), .int .i64 (k:Int)] w fun e w'=>∃ v,e = .returned v∧Ow w' base 5 v (l++beL n k)∧Below base w w':=by
 go_enter Tryz.func176,Tryz.ntmps176
 go_wp2
 go_loopw [0,7,9] (fun s j i wr=>∃ r:Nat,r≤k∧i = .int .i64 r∧Ow wr base 5 s (l++(beL n k).take r)∧Below base w wr) (fun _ _ i _=>k-(intOf i).toNat)
 case atStart=>exact ⟨0,by omega,rfl,by simpa using ho,Below.refl _ _⟩
 case round =>
  obtain ⟨r,hr,rfl,hor,hbr⟩:=hrel
  by_cases hlt:r < k
  ·have hs:(l++(beL n k).take r).length+[UInt8.ofNat (n / 2 ^ (8*(k-1-r)))].length≤140737488355328:=by simp; omega
   have hz:base≤(wr.alloc (.cells #[Value.int .u8 ((n:Int) / 2 ^ (8*(k-1-r)) % 256)] 5)).heap.size:=by have:=hbr.size; simp; omega
   go_wp2_with (at_builtin; (refine wpList_append_bs bt rfl _ _ rfl base rfl rfl (hor.below ((Below.refl _ _).alloc (Nat.le_refl _) _)) (Bs.new1 _ _ _ _ (byte_val n (8*(k-1-r)))) hs hz ?_); intro v2 w2 ho2 hg2)
   go_roundw
   case rel =>
    refine ⟨r+1,by omega,by go_num,?_,(hbr.alloc (by have:=hbr.size; omega) _).grown hg2 hz (fun j hj=>(World.ownsRow.lt hor j hj).1)⟩
    rw [beL_take_succ n k r hlt, ← List.append_assoc]
    exact ho2
   case measure=>simp [intOf]; omega
  ·obtain rfl:r=k:=by omega
   rw [beL_take_all] at hor
   go_wp2
   go_ret
   exact ⟨_,rfl,hor,hbr⟩
def putL (l:List UInt8) (n:Nat) (k:Int):List UInt8:=if mayB k=true then l++beL n k.toNat else l
theorem mayB_true {k:Int} (h:mayB k=true):1≤k∧k≤8:=by
 simp [mayB] at h
 omega
set_option maxHeartbeats 400000 in
theorem put_any {b:Value} {l:List UInt8} (n:Nat) (k:Int) (w:World) (hb:Bs w b l) (hl:l.length≤1073741824) :
  Calls Tryz.prog 138 #[b, .int .u64 (n:Int), .int .i64 k] w (Gives w (putL l n k)):=by
 by_cases hk:mayB k=true
 ·obtain ⟨k1,k8⟩:=mayB_true hk
  obtain ⟨k,rfl⟩:=Int.eq_ofNat_of_zero_le (show 0≤k by omega)
  have hp:Hid (putL l n (k:Int)=l++beL n k):=Lib.hid (by unfold putL; rw [if_pos hk]; rfl)
  go_enter Tryz.func138,Tryz.ntmps138
  go_wp2_with fail
  refine (maySize_any _ _).mono ?_
  rintro e w1 ⟨rfl,hb1⟩
  have hbs:=hb.below hb1
  go_wp2_with fail
  refine (withRoom_any k _ hbs (by omega)).mono ?_
  rintro e w2 ⟨v,rfl,ho,hb2⟩
  go_wp2_with fail
  refine (putNumber_any w1.heap.size n k _ ho (by omega) (by omega) hb2.size).mono ?_
  rintro e w3 ⟨v3,rfl,ho3,hb3⟩
  go_wp2
  go_ret
  refine ⟨_,rfl,?_,hb1.trans ((hb2.trans hb3).mono hb1.size)⟩
  rw [hp.out]
  exact ho3.mono hb1.size
 ·have hk':mayB k=false:=by simpa using hk
  have hp:Hid (putL l n k=l):=Lib.hid (by unfold putL; rw [if_neg hk])
  clear hk
  go_enter Tryz.func138,Tryz.ntmps138
  go_wp2_with fail
  refine (maySize_any _ _).mono ?_
  rintro e w1 ⟨rfl,hb1⟩
  have hbs:=hb.below hb1
  go_wp2_with fail
  refine (withRoom_any 0 _ hbs (by omega)).mono ?_
  rintro e w2 ⟨v,rfl,ho,hb2⟩
  go_wp2
  go_ret
  refine ⟨_,rfl,?_,hb1.trans (hb2.mono hb1.size)⟩
  rw [hp.out]
  exact ho.mono hb1.size
end Go.Proofs.YtgkofgifoiinkaaGreat
namespace Go.Proofs.YtgkofgifoiinkaaGreat
open Go.RowKit
def putsL (l m:List UInt8):List UInt8:=l++beL m.length 2++m
def Gives2 (w:World) (l:List UInt8) (e:Ending) (w':World):Prop:=∃ v,e = .returned (.tuple #[v, .int .i64 0])∧Ow w' w.heap.size 5 v l∧Below w.heap.size w w'
set_option maxHeartbeats 400000 in
theorem putBytes_any {b s:Value} {l m:List UInt8} (w:World) (hb:Bs w b l) (hs:Bs w s m) (hl:l.length≤1073741824) (hm:m.length≤65535) :
  Calls Tryz.prog 215 #[b,s] w (Gives2 w (putsL l m)):=by
 obtain ⟨a2,cap2,rfl,hs⟩:=hs.shape
 have e1:(2:Int)+(m.length:Int)=((2+m.length:Nat):Int):=by omega
 have h2:(2:Int)=((2:Nat):Int):=rfl
 have hsz:(l++beL m.length 2).length+m.length≤140737488355328:=by simp [beL_length]; omega
 have E1:=Lib.hid e1
 clear e1 h2
 go_enter Tryz.func215,Tryz.ntmps215
 go_wp2_with fail
 rw [E1.out]
 refine (withRoom_any (2+m.length) _ hb (by omega)).mono ?_
 rintro e w2 ⟨v,rfl,ho,hb2⟩
 go_wp2_with fail
 refine (putNumber_any w.heap.size m.length 2 _ ho (by omega) (by omega) hb2.size).mono ?_
 rintro e w3 ⟨v3,rfl,ho3,hb3⟩
 have hbl:=hb2.trans hb3
 have hs3:=hs.below hbl
 have hz:=hbl.size
 go_wp2_with (at_builtin; refine wpList_append_bs bt rfl _ _ rfl w.heap.size rfl rfl ho3 hs3 hsz hz ?_; intro v4 w4 ho4 hg4)
 go_ret2
 exact ⟨_,rfl,ho4,below_own hbl ho3 hg4⟩
end Go.Proofs.YtgkofgifoiinkaaGreat
