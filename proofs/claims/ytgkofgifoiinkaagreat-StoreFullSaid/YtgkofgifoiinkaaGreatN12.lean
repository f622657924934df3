/- A tree as its pairs and its pages: what a node of a level holds below it, over what stands in the blocks; no condition. -/
import Derived.Test.YtgkofgifoiinkaaGreatN11
import Derived.Carry
import Derived.Test.YtgkofgifoiinkaaGreatN07
import Derived.StillTailTactics
import Derived.Deep.RegionWith
namespace Go.Proofs.YtgkofgifoiinkaaGreat
open Go.RowKit
section
variable {w:World} {b sb:Nat} {l:List Pg} {F:Nat→Prop}
set_option maxHeartbeats 400000 in
theorem index_any (h:PgAt w b sb l F):Calls Tryz.prog 221 #[.slice (some ⟨sb,0,none⟩) l.length l.length, .int .u8 0] w
  fun e w'=>e = .returned (.int .i64 (ixP l))∧w=w':=by
 have hf:=h.few
 have HH:=Lib.hid h
 clear h
 go_enter Tryz.func221,Tryz.ntmps221
 go_wp2
 go_loopw [5,8] (fun _ i wr=>∃ j:Nat,j≤l.length∧i = .int .i64 j∧(∀ (q:Nat) (y:Pg),q < j→l[q]? = some y→pnum y≠0)∧wr=w) (fun _ i _=>l.length-(intOf i).toNat)
 case atStart=>exact ⟨0,Nat.zero_le _,rfl,fun q y hq=>absurd hq (Nat.not_lt_zero _),rfl⟩
 case round =>
  obtain ⟨j,hj,rfl,hall,rfl⟩:=hrel
  by_cases hlt:j < l.length
  ·obtain ⟨x,hx⟩:∃ x,l[j]? = some x:=⟨_,List.getElem?_eq_getElem hlt⟩
   obtain ⟨c1,_⟩:=HH.out.at hx
   have hil:(j:Int) < (l.length:Int):=by omega
   by_cases hp:pnum x=0
   ·have hr:=ixP_some (least_of hx hp hall)
    rw [hp] at c1
    have HR:=Lib.hid hr
    clear hr hx hp hall
    go_wp2
    go_ret
    exact ⟨by rw [HR.out]; rfl,rfl⟩
   ·have HS:=Lib.hid (show ∀ (q:Nat) (y:Pg),q < j+1→l[q]? = some y→pnum y≠0 from fun q y hq hy=>by
     by_cases e:q=j
     ·subst e
      rw [hx] at hy
      cases hy
      exact hp
     ·exact hall q y (by omega) hy)
    have hpb:((0:Int) == ((pnum x:Nat):Int))=false:=by rw [beq_eq_false_iff_ne]; omega
    have hpn:¬ (0:Int)=((pnum x:Nat):Int):=by omega
    clear hx hp hall
    generalize pnum x=p at *
    go_wp2
    go_roundw
    case rel=>exact ⟨j+1,by omega,by go_num,HS.out,by trivial⟩
    case measure=>simp [intOf]; omega
  ·obtain rfl:j=l.length:=by omega
   have hr:=ixP_none (least_of_none (l:=l) (fun q y hy=>hall q y (List.getElem?_eq_some_iff.1 hy).1 hy))
   have HR:=Lib.hid hr
   clear hr hall
   go_wp2
   go_ret
   exact ⟨by rw [HR.out]; rfl,rfl⟩
set_option maxHeartbeats 400000 in
theorem pgtake_any (h:Pgs w b l F):Calls Tryz.prog 216 #[ptr b] w fun e w'=>e = .returned (.tuple #[.int .i64 (tpage l),err (tcode l)])∧Pgs w' b (tdone l) F∧Only F w w':=by
 obtain ⟨sb,h⟩:=h
 have hix:=index_any h
 have c0:=h.top
 have hf:=h.few
 unfold tpage tcode tdone
 rcases hl:leastFree l with _ | k
 ·rw [ixP_none hl] at hix
  have HH:=Lib.hid (show Pgs w b l F∧Only F w w from ⟨⟨sb,h⟩,Only.refl _ _⟩)
  clear h hl
  go_enter Tryz.func216,Tryz.ntmps216
  go_wp2_with fail
  refine hix.mono ?_
  rintro e w1 ⟨rfl,rfl⟩
  go_wp2
  go_ret2
  exact ⟨rfl,HH.out⟩
 ·rw [ixP_some hl] at hix
  obtain ⟨x,hx,_⟩:=least_some hl
  obtain ⟨c1,f1⟩:=h.at hx
  have hk:=(List.getElem?_eq_some_iff.1 hx).1
  have hs:=h.set k (false,true)
  have HH:=Lib.hid (show Pgs (w.setCell ⟨sb,k,none⟩ (.int .u8 2)) b (l.set k (false,true)) F∧Only F w (w.setCell ⟨sb,k,none⟩ (.int .u8 2)) from ⟨⟨sb,hs⟩,h.only k _⟩)
  have h0:¬ (k:Int) < 0:=by omega
  have hd0:decide ((k:Int) < 0)=false:=by simp
  have hlt:(k:Int) < (l.length:Int):=by omega
  clear h hl hx hs
  simp only at hix ⊢
  go_enter Tryz.func216,Tryz.ntmps216
  go_wp2_with fail
  refine hix.mono ?_
  rintro e w1 ⟨rfl,rfl⟩
  go_wp2
  go_ret2
  exact ⟨rfl,HH.out⟩
set_option maxHeartbeats 400000 in
theorem use_any (h:Pgs w b l F) (k:Int):Calls Tryz.prog 92 #[ptr b, .int .i64 k] w (PSteps w b F (ucode l k) (udone l k)):=by
 unfold ucode udone PSteps
 have h0:=h
 rcases hk:pgAt l k with _ | x
 ·have HH:=Lib.hid h
  go_enter Tryz.func92,Tryz.ntmps92
  go_wp2_with fail
  refine (known_no h hk).mono ?_
  rintro e w1 ⟨rfl,rfl⟩
  go_wp2
  go_ret
  exact ⟨rfl,HH.out,Only.refl _ _⟩
 ·obtain ⟨n,rfl,hn,hx⟩:=pgAt_some hk
  obtain ⟨sb,h⟩:=h
  have c0:=h.top
  obtain ⟨c1,f1⟩:=h.at hx
  have hf:=h.few
  have hlt:(n:Int) < (l.length:Int):=by omega
  have hs:=h.set n (true,true)
  have HH:=Lib.hid (anZ h0 (show Pgs (w.setCell ⟨sb,n,none⟩ (.int .u8 1)) b (l.set n (true,true)) F∧Only F w (w.setCell ⟨sb,n,none⟩ (.int .u8 1)) from ⟨⟨sb,hs⟩,h.only n _⟩))
  simp only [Int.toNat_natCast]
  by_cases hp:pnum x=0
  ·rw [hp] at c1
   rw [if_pos hp,if_pos hp]
   clear h hk hx hs hp
   go_enter Tryz.func92,Tryz.ntmps92
   go_wp2_with fail
   refine (known_yes h0 n hn).mono ?_
   rintro e w1 ⟨rfl,rfl⟩
   go_wp2
   go_ret
   exact ⟨rfl,HH.out.2⟩
  ·rw [if_neg hp,if_neg hp]
   have hpb:(((pnum x:Nat):Int) == 0)=false:=by simpa using hp
   have hpn:¬ ((pnum x:Nat):Int)=0:=by omega
   clear h hk hx hs hp
   generalize pnum x=p at *
   go_enter Tryz.func92,Tryz.ntmps92
   go_wp2_with fail
   refine (known_yes h0 n hn).mono ?_
   rintro e w1 ⟨rfl,rfl⟩
   go_wp2
   go_ret
   exact ⟨rfl,HH.out.1,Only.refl _ _⟩
set_option maxHeartbeats 400000 in
theorem drop_any (h:Pgs w b l F) (k:Int):Calls Tryz.prog 104 #[ptr b, .int .i64 k] w (PSteps w b F (rcode l k) (rdone l k)):=by
 unfold rcode rdone PSteps
 have h0:=h
 rcases hk:pgAt l k with _ | x
 ·have HH:=Lib.hid h
  go_enter Tryz.func104,Tryz.ntmps104
  go_wp2_with fail
  refine (known_no h hk).mono ?_
  rintro e w1 ⟨rfl,rfl⟩
  go_wp2
  go_ret
  exact ⟨rfl,HH.out,Only.refl _ _⟩
 ·obtain ⟨n,rfl,hn,hx⟩:=pgAt_some hk
  obtain ⟨sb,h⟩:=h
  have c0:=h.top
  obtain ⟨c1,f1⟩:=h.at hx
  have hf:=h.few
  have hlt:(n:Int) < (l.length:Int):=by omega
  have hs0:=h.set n (false,false)
  have hs3:=h.set n (true,false)
  have HH:=Lib.hid (anZ h0 (anZ (show Pgs (w.setCell ⟨sb,n,none⟩ (.int .u8 0)) b (l.set n (false,false)) F∧Only F w (w.setCell ⟨sb,n,none⟩ (.int .u8 0)) from ⟨⟨sb,hs0⟩,h.only n _⟩)
   (show Pgs (w.setCell ⟨sb,n,none⟩ (.int .u8 3)) b (l.set n (true,false)) F∧Only F w (w.setCell ⟨sb,n,none⟩ (.int .u8 3)) from ⟨⟨sb,hs3⟩,h.only n _⟩)))
  simp only [Int.toNat_natCast]
  clear h hk hx hs0 hs3
  rcases x with ⟨_ | _,_ | _⟩ <;> simp only [pnum] at c1 <;> simp only [if_true,Bool.false_eq_true,if_false]
  ·go_enter Tryz.func104,Tryz.ntmps104
   go_wp2_with fail
   refine (known_yes h0 n hn).mono ?_
   rintro e w1 ⟨rfl,rfl⟩
   go_wp2
   go_ret
   exact ⟨rfl,HH.out.1,Only.refl _ _⟩
  ·go_enter Tryz.func104,Tryz.ntmps104
   go_wp2_with fail
   refine (known_yes h0 n hn).mono ?_
   rintro e w1 ⟨rfl,rfl⟩
   go_wp2
   go_ret
   exact ⟨rfl,HH.out.2.1⟩
  ·go_enter Tryz.func104,Tryz.ntmps104
   go_wp2_with fail
   refine (known_yes h0 n hn).mono ?_
   rintro e w1 ⟨rfl,rfl⟩
   go_wp2
   go_ret
   exact ⟨rfl,HH.out.1,Only.refl _ _⟩
  ·go_enter Tryz.func104,Tryz.ntmps104
   go_wp2_with fail
   refine (known_yes h0 n hn).mono ?_
   rintro e w1 ⟨rfl,rfl⟩
   go_wp2
   go_ret
   exact ⟨rfl,HH.out.2.2⟩
def endsTo (f:Pg→Pg) (l:List Pg) (j:Nat):List Pg:=(l.take j).map f++l.drop j
theorem endsTo_length (f:Pg→Pg) (l:List Pg) (j:Nat):(endsTo f l j).length=l.length:=by simp [endsTo]; omega
theorem endsTo_at (f:Pg→Pg) {l:List Pg} {j:Nat} {x:Pg} (h:l[j]? = some x):(endsTo f l j)[j]? = some x:=by
 have hj:=(List.getElem?_eq_some_iff.1 h).1
 unfold endsTo
 rw [List.getElem?_append_right (by simp only [List.length_map,List.length_take]; omega)]
 simp [Nat.min_eq_left (Nat.le_of_lt hj),h]
theorem endsTo_set (f:Pg→Pg) {l:List Pg} {j:Nat} {x:Pg} (h:l[j]? = some x):(endsTo f l j).set j (f x)=endsTo f l (j+1):=by
 have hj:=(List.getElem?_eq_some_iff.1 h).1
 have hx:=(List.getElem?_eq_some_iff.1 h).2
 unfold endsTo
 rw [List.set_append_right _ _ (by simp only [List.length_map,List.length_take]; omega)]
 have e1:j-((l.take j).map f).length=0:=by simp only [List.length_map,List.length_take]; omega
 rw [e1,List.drop_eq_getElem_cons hj,List.set_cons_zero,List.take_add_one,h]
 simp
theorem endsTo_same (f:Pg→Pg) {l:List Pg} {j:Nat} {x:Pg} (h:l[j]? = some x) (hf:f x=x):endsTo f l (j+1)=endsTo f l j:=by
 rw [← endsTo_set f h,hf]
 have:=endsTo_at f h
 obtain ⟨hl,e⟩:=List.getElem?_eq_some_iff.1 this
 conv=>lhs; rw [← e]
 exact List.set_getElem_self hl
theorem endsTo_all (f:Pg→Pg) (l:List Pg):endsTo f l l.length=l.map f:=by simp [endsTo]
theorem endsTo_zero (f:Pg→Pg) (l:List Pg):endsTo f l 0=l:=by simp [endsTo]
def endsAs (p q:Nat) (f:Pg→Pg):Prop:=p=pnum (f (false,true))∧q=pnum (f (true,false))∧f (false,false)=(false,false)∧f (true,true)=(true,true)
set_option maxHeartbeats 800000 in
theorem pgend_any (h:Pgs w b l F) (p q:Nat) (f:Pg→Pg) (hfs:endsAs p q f):Calls Tryz.prog 109 #[ptr b, .int .u8 (p:Int), .int .u8 (q:Int)] w (PSteps w b F 0 (l.map f)):=by
 unfold PSteps
 obtain ⟨sb,h⟩:=h
 have c0:=h.top
 have hf:=h.few
 have HH:=Lib.hid (anZ h hfs)
 clear h hfs
 go_enter Tryz.func109,Tryz.ntmps109
 go_wp2
 clear c0
 go_loopw [7,8,16] (fun _ _ i wr=>∃ j:Nat,j≤l.length∧i = .int .i64 j∧PgAt wr b sb (endsTo f l j) F∧Only F w wr) (fun _ _ i _=>l.length-(intOf i).toNat)
 case atStart=>exact ⟨0,Nat.zero_le _,rfl,by rw [endsTo_zero]; exact HH.out.1,Only.refl _ _⟩
 case round =>
  obtain ⟨j,hj,rfl,hpg,hon⟩:=hrel
  by_cases hlt:j < l.length
  ·obtain ⟨x,hx⟩:∃ x,l[j]? = some x:=⟨_,List.getElem?_eq_getElem hlt⟩
   have c0:=hpg.top
   rw [endsTo_length] at c0
   obtain ⟨c1,f1⟩:=hpg.at (endsTo_at f hx)
   have hil:(j:Int) < (l.length:Int):=by omega
   have hsame:=fun (e:f x=x)=>endsTo_same f hx e
   have hset:=endsTo_set f hx
   have hs:=hpg.set j (f x)
   rw [hset] at hs
   have ho:=hon.trans (hpg.only j (pv (f x)))
   obtain ⟨e1,e2,e3,e4⟩:=HH.out.2
   have H2:=Lib.hid (anZ hpg (anZ hon (anZ hs ho)))
   clear hpg hon hs ho hset hx
   rcases x with ⟨_ | _,_ | _⟩
   ·have h3:=Lib.hid (hsame e3)
    clear hsame e1 e2 e3 e4
    simp only [pnum] at c1
    go_wp2
    go_roundw
    case rel=>exact ⟨j+1,by omega,by go_num,by rw [h3.out]; exact H2.out.1,H2.out.2.1⟩
    case measure=>simp [intOf]; omega
   ·have h3:=Lib.hid e1
    clear hsame e1 e2 e3 e4
    simp only [pnum] at c1
    go_wp2
    go_roundw
    case rel=>exact ⟨j+1,by omega,by go_num,by have:=H2.out.2.2.1; unfold pv at this; rw [← h3.out] at this; exact this,by have:=H2.out.2.2.2; unfold pv at this; rw [← h3.out] at this; exact this⟩
    case measure=>simp [intOf]; omega
   ·have h3:=Lib.hid e2
    clear hsame e1 e2 e3 e4
    simp only [pnum] at c1
    go_wp2
    go_roundw
    case rel=>exact ⟨j+1,by omega,by go_num,by have:=H2.out.2.2.1; unfold pv at this; rw [← h3.out] at this; exact this,by have:=H2.out.2.2.2; unfold pv at this; rw [← h3.out] at this; exact this⟩
    case measure=>simp [intOf]; omega
   ·have h3:=Lib.hid (hsame e4)
    clear hsame e1 e2 e3 e4
    simp only [pnum] at c1
    go_wp2
    go_roundw
    case rel=>exact ⟨j+1,by omega,by go_num,by rw [h3.out]; exact H2.out.1,H2.out.2.1⟩
    case measure=>simp [intOf]; omega
  ·obtain rfl:j=l.length:=by omega
   rw [endsTo_all] at hpg
   have H2:=Lib.hid (anZ hpg hon)
   clear hpg hon
   go_wp2
   go_ret
   exact ⟨rfl,⟨sb,H2.out.1⟩,H2.out.2⟩
theorem settle_any (h:Pgs w b l F):Calls Tryz.prog 81 #[ptr b] w (PSteps w b F 0 (settledP l)):=by
 have he:=pgend_any h 1 0 (fun x=>(x.2,x.2)) ⟨rfl,rfl,rfl,rfl⟩
 go_enter Tryz.func81,Tryz.ntmps81
 go_wp2_with fail
 refine he.mono ?_
 rintro e w1 ⟨rfl,hp,ho⟩
 clear he
 go_wp2
 go_ret
 exact ⟨rfl,hp,ho⟩
end
end Go.Proofs.YtgkofgifoiinkaaGreat
namespace Go.Proofs.YtgkofgifoiinkaaGreat
open Go.RowKit
def freshP (n:Nat):List Pg:=List.replicate n (false,false)
theorem freshP_length (n:Nat):(freshP n).length=n:=List.length_replicate
theorem st_info:(Tryz.prog.info? 158).map (fun i=>(i.zero,i.size,i.bytes))=some (some (.int .u8 0),1,1):=by kernel_rfl
theorem made_sts (n:Nat):(madeCells (Value.int .u8 0).cells (n*1)).toList=pvs (freshP n):=by
 apply List.ext_getElem?
 intro j
 by_cases hj:j < n
 ·simp [madeCells,hj,Value.cells,Nat.mod_one,pvs,freshP,pv,pnum]
 ·simp [madeCells,hj,pvs,freshP]
def PNews (w:World) (n:Nat) (e:Ending) (w':World):Prop :=
 ∃ b,e = .returned (.tuple #[ptr b,err 0])∧Pgs w' b (freshP n) (fun q=>w.heap.size≤q∧q < w'.heap.size)∧Below w.heap.size w w'
theorem pgnew_ok (n:Nat) (w:World) (h1:1≤n) (h2:n≤4096):Calls Tryz.prog 68 #[.int .i64 (n:Int)] w (PNews w n):=by
 obtain ⟨i0,hi,hz0,hz1,hz2⟩:=info_parts st_info
 obtain ⟨w1,hmk,o1,g1⟩:=run_make_full (P:=Tryz.prog) w w.heap.size 138 158 i0 (.int .u8 0) 1 Tryz.underlying138 hi hz0 hz1 .i64 .i64 n (by rw [hz2]; omega) (by unfold maxLen; omega) (Nat.le_refl _)
 have c1:Cel w1 w.heap.size (pvs (freshP n)) 158:=by
  rcases o1.2 with ⟨h,_⟩ | ⟨g,cap,cur,hv,_,hg,_,_,hs,ht⟩
  ·cases h
  ·simp only [Value.slice.injEq,Option.some.injEq,Addr.mk.injEq] at hv
   obtain ⟨⟨rfl,_⟩,_,rfl⟩:=hv
   rw [List.take_of_length_le (by simp [hs])] at ht
   rw [made_sts] at ht
   unfold Cel
   rw [← ht]
   simpa using hg
 have hb1:Below w.heap.size w w1:=(Below.refl _ _).grown g1 (Nat.le_refl _) (fun _ h=>by cases h)
 have hsz:=c1.lt
 have t1:decide ((n:Int) < 1)=false:=by simp; omega
 have t2:decide ((4096:Int) < (n:Int))=false:=by simp; omega
 have H:=Lib.hid (anZ (anZ h1 h2) (anZ hb1 (anZ hsz c1)))
 clear o1 g1 c1 hb1 hi hz0 hz1 hz2 h1 h2 hsz
 go_enter Tryz.func68,Tryz.ntmps68
 go_wp2
 go_ret2
 obtain ⟨⟨h1,h2⟩,hb1,hsz,c1⟩:=H.out
 refine ⟨w1.heap.size,rfl,⟨w.heap.size,?_,c1.alloc _,⟨by omega,by simp⟩,⟨by omega,by simp; omega⟩,fun q hq=>hq.2,by rw [freshP_length]; exact h1,by rw [freshP_length]; exact h2⟩,hb1.alloc hb1.size _⟩
 rw [freshP_length]
 exact Cel.new w1 _ _
end Go.Proofs.YtgkofgifoiinkaaGreat
namespace Go.Proofs.YtgkofgifoiinkaaGreat
open Go.RowKit
structure TrAt (w:World) (tb db pb fr:Nat) (D:Dv) (l:List Pg) (S F G:Nat→Prop):Prop where
 tree:Cel w tb [ptr db,ptr pb, .int .i64 (fr:Nat)] 142
 dev:Dev w db D F
 pgs:Pgs w pb l G
 fg:∀ q,F q→¬ G q
 fs:∀ q,F q→S q
 gs:∀ q,G q→S q
 lt:∀ q,S q→q < w.heap.size
 out:¬ S tb
 room:fr+l.length≤D.bk.length
def TrS (w:World) (tb db pb fr:Nat) (D:Dv) (l:List Pg) (S:Nat→Prop):Prop:=∃ F G,TrAt w tb db pb fr D l S F G
section
variable {w w':World} {tb db pb fr:Nat} {D:Dv} {l:List Pg} {S:Nat→Prop}
theorem TrS.below (h:TrS w tb db pb fr D l S) (hb:Below w.heap.size w w'):TrS w' tb db pb fr D l S:=by
 obtain ⟨F,G,h⟩:=h
 exact ⟨F,G,h.tree.below hb h.tree.lt,h.dev.below hb,h.pgs.below hb,h.fg,h.fs,h.gs,fun q hq=>Nat.lt_of_lt_of_le (h.lt q hq) hb.size,h.out,h.room⟩
theorem TrS.more {S':Nat→Prop} (h:TrS w tb db pb fr D l S) (hs:∀ q,S q→S' q) (hl:∀ q,S' q→q < w.heap.size) (ht:¬ S' tb):TrS w tb db pb fr D l S':=by
 obtain ⟨F,G,h⟩:=h
 exact ⟨F,G,h.tree,h.dev,h.pgs,h.fg,fun q hq=>hs q (h.fs q hq),fun q hq=>hs q (h.gs q hq),hl,ht,h.room⟩
theorem TrS.tlt (h:TrS w tb db pb fr D l S):tb < w.heap.size∧¬ S tb:=let ⟨_,_,h⟩:=h; ⟨h.tree.lt,h.out⟩
theorem TrS.lt (h:TrS w tb db pb fr D l S):∀ q,S q→q < w.heap.size:=let ⟨_,_,h⟩:=h; h.lt
theorem TrS.room (h:TrS w tb db pb fr D l S):fr+l.length≤D.bk.length:=let ⟨_,_,h⟩:=h; h.room
theorem TrS.few (h:TrS w tb db pb fr D l S):0 < l.length∧l.length≤4096:=let ⟨_,_,h⟩:=h; ⟨h.pgs.pos,h.pgs.few⟩
theorem Dev.bks {b:Nat} {F:Nat→Prop} (h:Dev w b D F):0 < D.bk.length∧D.bk.length≤4096:=by
 obtain ⟨sb,mb,sv,lv,Dm,h1⟩:=h
 exact ⟨h1.pos,h1.few⟩
end
def blkOf (D:Dv) (fr k:Nat):Bytes:=((D.bk[fr+k]?).map Bk.stands).getD []
def Readn (w:World) (S:Nat→Prop) (N:Nat) (b:Bytes) (k:Nat) (e:Ending) (w':World):Prop :=
 ∃ v r,e = .returned (.tuple #[v,err (if Option.isSome r then 0 else 9)])∧Says N b r∧Nv w' S v (match r with | some (lvl,es)=>⟨k,lvl,es,[]⟩ | none=>⟨0,0,[],[]⟩)∧Below w.heap.size w w'
set_option maxRecDepth 100000 in
set_option maxHeartbeats 1000000 in
theorem tread_any {tb db pb fr:Nat} {D:Dv} {l:List Pg} {S:Nat→Prop} (w:World) (h:TrS w tb db pb fr D l S) (ho:D.on=true) (k:Nat) (hk:k < l.length) :
  Calls Tryz.prog 145 #[ptr tb, .int .i64 (k:Int)] w (Readn w S l.length (blkOf D fr k) k):=by
 obtain ⟨F,G,h⟩:=h
 have hd:=h.dev.bks
 obtain ⟨x,hx⟩:∃ x,D.bk[fr+k]? = some x:=⟨_,List.getElem?_eq_getElem (by have:=h.room; omega)⟩
 have hbk:blkOf D fr k=x.stands:=by unfold blkOf; rw [hx]; rfl
 have hroom:=h.room
 rw [hbk]
 have hb0:Below w.heap.size w (w.alloc (.cells #[.int .i64 0, .int .i64 0, .slice none 0 0, .slice none 0 0] 179)):=(Below.refl _ _).alloc (Nat.le_refl _) _
 have C0:Cel (w.alloc (.cells #[.int .i64 0, .int .i64 0, .slice none 0 0, .slice none 0 0] 179)) w.heap.size [.int .i64 0, .int .i64 0, .slice none 0 0, .slice none 0 0] 179:=Cel.new w _ _
 have R:=read_ok (h.dev.below hb0 |>.kept (w':=(w.alloc (.cells #[.int .i64 0, .int .i64 0, .slice none 0 0, .slice none 0 0] 179)).drew) (fun _ _=>rfl) (Nat.le_refl _)) ho hx
 have t0:=(h.tree.below hb0 h.tree.lt).cell 0
 have t1:=(h.tree.below hb0 h.tree.lt).cell 1
 have t2:=(h.tree.below hb0 h.tree.lt).cell 2
 have hfk:((fr+k:Nat):Int)=(fr:Int)+(k:Int):=by omega
 rw [hfk] at R
 have hfi:(fr:Int)+(k:Int)≤4096:=by omega
 have HH:=Lib.hid (anZ h (anZ hb0 (anZ C0 hd)))
 have HX2:=Lib.hid hx
 clear h hb0 C0 hd hx hbk hfk hroom
 go_enter Tryz.func145,Tryz.ntmps145
 go_wp2_with fail
 have hwr:IntKind.i64.wrap ((fr:Int)+(k:Int))=(fr:Int)+(k:Int):=by rw [IntKind.wrap_i64]; omega
 have HX:=Lib.hid (fun (W:World) (hW:W.cell? ⟨tb,0,none⟩=some (ptr db)∧W.cell? ⟨tb,2,none⟩=some (.int .i64 (fr:Nat)))=>anZ hW hwr)
 refine region_till 99 (fun W=>W.cell? ⟨tb,0,none⟩=some (ptr db)∧W.cell? ⟨tb,2,none⟩=some (.int .i64 (fr:Nat))) (by kernel_rfl) ⟨t0,t2⟩ (fun hS=>?_)
 refine tkZ (i:=0) 11 (ptr tb) rfl rfl (by kernel_rfl) (fun _ _ _ h=>h) (by rfl) (fun W hW=>?_) hS ?_
 ·have hx:=HX.out W hW
  clear hW
  go_simp
 simp only [Act.put,sAZ,sBZ,sCZ]
 refine tkZ (i:=1) 12 (ptr tb) rfl rfl (by kernel_rfl) (fun _ _ _ h=>h) (by rfl) (fun W hW=>?_) hS ?_
 ·have hx:=HX.out W hW
  clear hW
  go_simp
 simp only [Act.put,sAZ,sBZ,sCZ]
 refine tkZ (i:=2) 13 (.pointer (some ⟨tb,0,none⟩)) rfl rfl (by kernel_rfl) (fun _ _ _ h=>h) (by rfl) (fun W hW=>?_) hS ?_
 ·have hx:=HX.out W hW
  clear hW
  go_simp
 simp only [Act.put,sAZ,sBZ,sCZ]
 refine tkZ (i:=3) 14 (ptr db) rfl rfl (by kernel_rfl) (fun _ _ _ h=>h) (by rfl) (fun W hW=>?_) hS ?_
 ·have hx:=HX.out W hW
  clear hW
  go_simp
 simp only [Act.put,sAZ,sBZ,sCZ]
 refine tkZ (i:=4) 15 (ptr tb) rfl rfl (by kernel_rfl) (fun _ _ _ h=>h) (by rfl) (fun W hW=>?_) hS ?_
 ·have hx:=HX.out W hW
  clear hW
  go_simp
 simp only [Act.put,sAZ,sBZ,sCZ]
 refine tkZ (i:=5) 16 (ptr tb) rfl rfl (by kernel_rfl) (fun _ _ _ h=>h) (by rfl) (fun W hW=>?_) hS ?_
 ·have hx:=HX.out W hW
  clear hW
  go_simp
 simp only [Act.put,sAZ,sBZ,sCZ]
 refine tkZ (i:=6) 17 (.pointer (some ⟨tb,2,none⟩)) rfl rfl (by kernel_rfl) (fun _ _ _ h=>h) (by rfl) (fun W hW=>?_) hS ?_
 ·have hx:=HX.out W hW
  clear hW
  go_simp
 simp only [Act.put,sAZ,sBZ,sCZ]
 refine tkZ (i:=7) 18 (.int .i64 (fr:Nat)) rfl rfl (by kernel_rfl) (fun _ _ _ h=>h) (by rfl) (fun W hW=>?_) hS ?_
 ·have hx:=HX.out W hW
  clear hW
  go_simp
 simp only [Act.put,sAZ,sBZ,sCZ]
 refine tkZ (i:=8) 19 (.int .i64 (k:Int)) rfl rfl (by kernel_rfl) (fun _ _ _ h=>h) (by rfl) (fun W hW=>?_) hS ?_
 ·have hx:=HX.out W hW
  clear hW
  go_simp
 simp only [Act.put,sAZ,sBZ,sCZ]
 refine tkZ (i:=9) 20 (.int .i64 ((fr:Int)+(k:Int))) rfl rfl (by kernel_rfl) (fun _ _ _ h=>h) (by rfl) (fun W hW=>?_) hS ?_
 ·have hx:=HX.out W hW
  clear hW
  go_simp
 simp only [Act.put,sAZ,sBZ,sCZ]
 refine next_till 10 (by kernel_rfl) rfl (fun K hK=>?_)
 go_simp
 refine R.mono ?_
 rintro e w1 ⟨g,rfl,hg,hwg,hb1⟩
 clear R
 obtain ⟨h,hb0,C0,hd⟩:=HH.out
 have hbw:Below w.heap.size w w1:=hb0.trans (show Below w.heap.size (w.alloc (.cells #[.int .i64 0, .int .i64 0, .slice none 0 0, .slice none 0 0] 179)) w1 from ⟨hb1.os,hb1.tape,hb1.output,hb1.size,fun k hk=>hb1.block k (Nat.lt_of_lt_of_le hk hb0.size)⟩)
 have C1:Cel w1 w.heap.size [.int .i64 0, .int .i64 0, .slice none 0 0, .slice none 0 0] 179:=C0.kept (hb1.block _ C0.lt)
 have T1:=h.tree.below hbw h.tree.lt
 have u0:w1.cell? ⟨tb,0,none⟩=some (ptr db):=T1.cell 0
 have u1:w1.cell? ⟨tb,1,none⟩=some (ptr pb):=T1.cell 1
 have u2:w1.cell? ⟨tb,2,none⟩=some (.int .i64 (fr:Nat)):=T1.cell 2
 refine hK.out _ _ (fun _=>⟨u0,u2⟩) ?_
 clear hK K
 have hxl:=stands_len h.dev (k:=fr+k) (HX2.out)
 have P1:=pgsize_any (h.pgs.below hbw)
 have Bg:Bs w1 (.slice (some ⟨g,0,none⟩) 512 512) x.stands:=Blk.bs ⟨g,rfl,hg,hxl⟩
 have O:=topened_any (S:=fun q=>S q∨q=w.heap.size) l.length w1 Bg (fun q hq=>hq.elim (fun hq=>Nat.lt_of_lt_of_le (h.lt q hq) hbw.size) (fun e=>e ▸ C1.lt)) h.pgs.few
 have H1:=Lib.hid (anZ hbw (anZ C1 (anZ h.lt hb0)))
 have hS:w1.cell? ⟨tb,0,none⟩=some (ptr db)∧w1.cell? ⟨tb,2,none⟩=some (.int .i64 (fr:Nat)):=⟨u0,u2⟩
 clear h hb0 C0 hd hbw C1 T1 hb1 hg hwg hxl Bg t0 t1 t2
 refine tkZ (i:=11) 10 (.tuple #[.slice (some ⟨g,0,none⟩) 512 512,err 0]) rfl rfl (by kernel_rfl) (fun _ _ _ h=>h) (by rfl) (fun W hW=>?_) hS ?_
 ·have hx:=HX.out W hW
  clear hW
  go_simp
 simp only [Act.put,sAZ,sBZ,sCZ]
 refine tkZ (i:=12) 22 (.slice (some ⟨g,0,none⟩) 512 512) rfl rfl (by kernel_rfl) (fun _ _ _ h=>h) (by rfl) (fun W hW=>?_) hS ?_
 ·have hx:=HX.out W hW
  clear hW
  go_simp
 simp only [Act.put,sAZ,sBZ,sCZ]
 refine tkZ (i:=13) 23 (err 0) rfl rfl (by kernel_rfl) (fun _ _ _ h=>h) (by rfl) (fun W hW=>?_) hS ?_
 ·have hx:=HX.out W hW
  clear hW
  go_simp
 simp only [Act.put,sAZ,sBZ,sCZ]
 refine tkZ (i:=14) 6 (.slice (some ⟨g,0,none⟩) 512 512) rfl rfl (by kernel_rfl) (fun _ _ _ h=>h) (by rfl) (fun W hW=>?_) hS ?_
 ·have hx:=HX.out W hW
  clear hW
  go_simp
 simp only [Act.put,sAZ,sBZ,sCZ]
 refine next_till 15 (by kernel_rfl) rfl (fun K hK=>?_)
 go_simp
 refine hK.out _ _ (fun _=>hS) ?_
 clear hK K hS
 refine done_till (by kernel_rfl) ?_ _
 clear HX HX2
 go_wp2_with fail
 refine P1.mono ?_
 rintro e w2 ⟨rfl,rfl⟩
 clear P1
 go_wp2_with fail
 refine O.mono ?_
 rintro e w2 ⟨nv,r,rfl,hs,hn,hb2⟩
 clear O
 obtain ⟨hbw,C1,hlt,hb0⟩:=H1.out
 have C2:=C1.below hb2 C1.lt
 have c0:w2.cell? ⟨w.heap.size,0,none⟩=some (.int .i64 0):=C2.cell 0
 have c1:w2.cell? ⟨w.heap.size,1,none⟩=some (.int .i64 0):=C2.cell 1
 have c2:w2.cell? ⟨w.heap.size,2,none⟩=some (.slice none 0 0):=C2.cell 2
 have c3:w2.cell? ⟨w.heap.size,3,none⟩=some (.slice none 0 0):=C2.cell 3
 have f0:=C2.frozen 0
 have f1:=C2.frozen 1
 have f2:=C2.frozen 2
 have f3:=C2.frozen 3
 have hbw2:=hbw.trans (hb2.mono hbw.size)
 have hz:=C2.lt
 rcases r with _ | ⟨lvl,es⟩
 ·obtain ⟨ea,ec,ta,tc,rfl,he,ht⟩:=hn
  have H2:=Lib.hid (anZ C2 (anZ hbw2 hs))
  clear hbw C1 hlt hb0 C2 hbw2 hs hb2 he ht u0 u1 u2
  simp only [Option.isSome]
  go_wp2
  obtain ⟨C2,hbw2,hs⟩:=H2.out
  have C5:=((((C2.set 0 (.int .i64 0)).set 1 (.int .i64 0)).set 2 (.slice none 0 0)).set 3 (.slice none 0 0)).alloc (.cells #[.int .i64 0, .int .i64 0, .slice ea 0 ec, .slice ta 0 tc] 179)
  have B5:=(((hbw2.setCell (p:=⟨w.heap.size,0,none⟩) (Nat.le_refl _) (.int .i64 0)).setCell (p:=⟨w.heap.size,1,none⟩) (Nat.le_refl _) (.int .i64 0)).setCell (p:=⟨w.heap.size,2,none⟩) (Nat.le_refl _) (.slice none 0 0)).setCell (p:=⟨w.heap.size,3,none⟩) (Nat.le_refl _) (.slice none 0 0)
  exact bodyPost_ret (tresults_cell2 (g:=w.heap.size) rfl rfl C5 Tryz.underlying179 rfl (by kernel_rfl)) rfl ⟨_,none,rfl,hs,nv_zero _ S,B5.alloc B5.size _⟩
 ·obtain ⟨ea,ec,ta,tc,rfl,he,ht⟩:=hn
  have H2:=Lib.hid (anZ C2 (anZ hbw2 (anZ hs (anZ (anZ he ht) (anZ hb2 hlt)))))
  have hne:w.heap.size≠w2.heap.size:=by omega
  clear hbw C1 hlt hb0 C2 hbw2 hs hb2 he ht u0 u1 u2
  simp only [Option.isSome]
  go_wp2
  obtain ⟨C2,hbw2,hs,he,hb2,hlt⟩:=H2.out
  have C5:=((((C2.set 0 (.int .i64 (k:Int))).set 1 (.int .i64 (lvl:Nat))).set 2 (.slice ea es.length ec)).set 3 (.slice ta 0 tc)).alloc (.cells #[.int .i64 (k:Int), .int .i64 (lvl:Nat), .slice ea es.length ec, .slice ta 0 tc] 179)
  have B5:=(((hbw2.setCell (p:=⟨w.heap.size,0,none⟩) (Nat.le_refl _) (.int .i64 (k:Int))).setCell (p:=⟨w.heap.size,1,none⟩) (Nat.le_refl _) (.int .i64 (lvl:Nat))).setCell (p:=⟨w.heap.size,2,none⟩) (Nat.le_refl _) (.slice ea es.length ec)).setCell (p:=⟨w.heap.size,3,none⟩) (Nat.le_refl _) (.slice ta 0 tc)
  have st:=(((((Step.refl (fun q=>S q∨q=w.heap.size) w2).set (p:=⟨w.heap.size,0,none⟩) (.inr rfl) (.int .i64 (k:Int))).set (p:=⟨w.heap.size,1,none⟩) (.inr rfl) (.int .i64 (lvl:Nat))).set (p:=⟨w.heap.size,2,none⟩) (.inr rfl) (.slice ea es.length ec)).set (p:=⟨w.heap.size,3,none⟩) (.inr rfl) (.slice ta 0 tc)).alloc (.cells #[.int .i64 (k:Int), .int .i64 (lvl:Nat), .slice ea es.length ec, .slice ta 0 tc] 179)
  have st2:=st.weak (S'':=S) fun q h=>.inl h
  exact bodyPost_ret (tresults_cell2 (g:=w.heap.size) rfl rfl C5 Tryz.underlying179 rfl (by kernel_rfl)) rfl ⟨_,some (lvl,es),rfl,hs,Nv.of (n:=⟨(k:Int),lvl,es,[]⟩) (he.1.step st2) (he.2.step st2),B5.alloc B5.size _⟩
end Go.Proofs.YtgkofgifoiinkaaGreat
namespace Go.Proofs.YtgkofgifoiinkaaGreat
open Go.RowKit
def EsOk (N lvl:Nat) (es:List En):Prop:=es≠[]∧nsize lvl es≤503∧RiseE es∧∀ e∈es,(1≤e.key.length∧e.key.length≤32)∧e.val.length≤128∧e.page < N∧EnOk lvl e
def NdOk (N lvl:Nat) (es:List En):Prop:=EsOk N lvl es∧(0 < lvl→2≤es.length)
theorem NdOk.may {N lvl:Nat} {es:List En} (h:NdOk N lvl es):MayP N lvl es:=⟨h.1.1,h.2,fun e he=>⟨(h.1.2.2.2 e he).1,(h.1.2.2.2 e he).2.1,(h.1.2.2.2 e he).2.2.1⟩,h.1.2.2.1⟩
structure Sb where
 key:Bytes
 page:Nat
 prs:List Pr
 pgs:List Nat
def kidE (k:Sb):En:=⟨k.key,[],k.page⟩
def prE (p:Pr):En:=⟨p.1,p.2,0⟩
def Nb (B:Nat→Bytes) (N:Nat):Nat→List En→List Pr→List Nat→Prop
 | 0,es,prs,pgs=>es=prs.map prE∧pgs=[]
 | l+1,es,prs,pgs=>∃ kids:List Sb,es=kids.map kidE∧prs=kids.flatMap Sb.prs∧pgs=kids.flatMap Sb.pgs ∧
   ∀ k∈kids,∃ ces cpg,NdOk N l ces∧B k.page=sealL 3 (bodyL l ces)∧Nb B N l ces k.prs cpg∧k.pgs=k.page::cpg∧ces.head?.map En.key=some k.key∧k.page < N
def Sub (B:Nat→Bytes) (N l:Nat) (k:Sb):Prop :=
 ∃ ces cpg,NdOk N l ces∧B k.page=sealL 3 (bodyL l ces)∧Nb B N l ces k.prs cpg∧k.pgs=k.page::cpg∧ces.head?.map En.key=some k.key∧k.page < N
theorem Nb.zero {B:Nat→Bytes} {N:Nat} {es:List En} {prs:List Pr} {pgs:List Nat}:Nb B N 0 es prs pgs↔es=prs.map prE∧pgs=[]:=Iff.rfl
theorem Nb.succ {B:Nat→Bytes} {N l:Nat} {es:List En} {prs:List Pr} {pgs:List Nat}:Nb B N (l+1) es prs pgs ↔
  ∃ kids:List Sb,es=kids.map kidE∧prs=kids.flatMap Sb.prs∧pgs=kids.flatMap Sb.pgs∧∀ k∈kids,Sub B N l k:=Iff.rfl
theorem Nb.congr {B B':Nat→Bytes} {N:Nat}:∀ {l:Nat} {es:List En} {prs:List Pr} {pgs:List Nat},(∀ k∈pgs,B' k=B k)→Nb B N l es prs pgs→Nb B' N l es prs pgs
 | 0,_,_,_,_,h=>h
 | l+1,es,prs,pgs,hk,h=>by
  obtain ⟨kids,h1,h2,h3,h4⟩:=Nb.succ.1 h
  refine Nb.succ.2 ⟨kids,h1,h2,h3,fun k hkk=>?_⟩
  obtain ⟨ces,cpg,g1,g2,g3,g4,g5,g6⟩:=h4 k hkk
  have hin:∀ q∈k.pgs,B' q=B q:=fun q hq=>hk q (by rw [h3]; exact List.mem_flatMap.2 ⟨k,hkk,hq⟩)
  refine ⟨ces,cpg,g1,?_,Nb.congr (fun q hq=>hin q (by rw [g4]; exact List.mem_cons_of_mem _ hq)) g3,g4,g5,g6⟩
  rw [hin k.page (by rw [g4]; exact List.mem_cons_self)]
  exact g2
theorem Sub.congr {B B':Nat→Bytes} {N l:Nat} {k:Sb} (hk:∀ q∈k.pgs,B' q=B q) (h:Sub B N l k):Sub B' N l k:=by
 obtain ⟨ces,cpg,g1,g2,g3,g4,g5,g6⟩:=h
 refine ⟨ces,cpg,g1,?_,Nb.congr (fun q hq=>hk q (by rw [g4]; exact List.mem_cons_of_mem _ hq)) g3,g4,g5,g6⟩
 rw [hk k.page (by rw [g4]; exact List.mem_cons_self)]
 exact g2
def RiseP (l:List Pr):Prop:=l.Pairwise fun a b=>cmp a.1 b.1 < 0
theorem RiseP.append {a b:List Pr}:RiseP (a++b)↔RiseP a∧RiseP b∧∀ x∈a,∀ y∈b,cmp x.1 y.1 < 0:=List.pairwise_append
theorem Nb.head {B:Nat→Bytes} {N:Nat}:∀ {l:Nat} {es:List En} {prs:List Pr} {pgs:List Nat},Nb B N l es prs pgs→es.head?.map En.key=prs.head?.map Prod.fst
 | 0,es,prs,pgs,h=>by
  obtain ⟨rfl,_⟩:=Nb.zero.1 h
  cases prs <;> rfl
 | l+1,es,prs,pgs,h=>by
  obtain ⟨kids,rfl,rfl,h3,h4⟩:=Nb.succ.1 h
  rcases kids with _ | ⟨k,r⟩
  ·rfl
  ·obtain ⟨ces,cpg,g1,g2,g3,g4,g5,g6⟩:=h4 k List.mem_cons_self
   have ih:=Nb.head g3
   rw [g5] at ih
   rcases hp:k.prs with _ | ⟨p,q⟩
   ·rw [hp] at ih
    cases ih
   ·rw [hp] at ih
    simp only [List.head?_cons,Option.map_some,Option.some.injEq] at ih
    simp [kidE,ih,hp]
theorem Nb.keys {B:Nat→Bytes} {N l:Nat} {es:List En} {prs:List Pr} {pgs:List Nat} (h:Nb B N l es prs pgs) {e:En} (he:e∈es):∃ v,(e.key,v)∈prs:=by
 cases l with
 | zero =>
  obtain ⟨rfl,_⟩:=Nb.zero.1 h
  obtain ⟨p,hp,rfl⟩:=List.mem_map.1 he
  exact ⟨p.2,hp⟩
 | succ l =>
  obtain ⟨kids,rfl,rfl,h3,h4⟩:=Nb.succ.1 h
  obtain ⟨k,hk,rfl⟩:=List.mem_map.1 he
  obtain ⟨ces,cpg,g1,g2,g3,g4,g5,g6⟩:=h4 k hk
  have ih:=Nb.head g3
  rw [g5] at ih
  rcases hp:k.prs with _ | ⟨p,q⟩
  ·rw [hp] at ih
   cases ih
  ·rw [hp] at ih
   simp only [List.head?_cons,Option.map_some,Option.some.injEq] at ih
   refine ⟨p.2,List.mem_flatMap.2 ⟨k,hk,?_⟩⟩
   rw [hp]
   show (k.key,p.2)∈p::q
   rw [ih]
   exact List.mem_cons_self
theorem Sub.ne {B:Nat→Bytes} {N l:Nat} {k:Sb} (h:Sub B N l k):k.prs≠[]:=by
 obtain ⟨ces,cpg,g1,g2,g3,g4,g5,g6⟩:=h
 intro e
 have ih:=Nb.head g3
 rw [g5,e] at ih
 cases ih
theorem Sub.first {B:Nat→Bytes} {N l:Nat} {k:Sb} (h:Sub B N l k):∃ v r,k.prs=(k.key,v)::r:=by
 obtain ⟨ces,cpg,g1,g2,g3,g4,g5,g6⟩:=h
 have ih:=Nb.head g3
 rw [g5] at ih
 rcases hp:k.prs with _ | ⟨p,q⟩
 ·rw [hp] at ih
  cases ih
 ·rw [hp] at ih
  simp only [List.head?_cons,Option.map_some,Option.some.injEq] at ih
  exact ⟨p.2,q,by rw [ih]⟩
def Under (prs:List Pr) (toZ:Bytes):Prop:=toZ=[]∨∀ p∈prs,cmp p.1 toZ < 0
theorem Under.ahead {prs:List Pr} {toZ:Bytes} (h:Under prs toZ) {k v:Bytes} (hk:(k,v)∈prs):aheadB k toZ=true:=by
 unfold aheadB
 rcases h with h | h
 ·subst h; rfl
 ·rw [decide_eq_true (h _ hk),Bool.or_true]
section
variable {B:Nat→Bytes} {N l:Nat} {kids:List Sb} {toZ:Bytes}
theorem under_kid (hs:∀ k∈kids,Sub B N l k) (hr:RiseP (kids.flatMap Sb.prs)) (hu:Under (kids.flatMap Sb.prs) toZ) {i:Nat} {k:Sb} (hk:kids[i]? = some k):Under k.prs (endK (kids.map kidE) toZ i):=by
 unfold endK
 rw [List.getElem?_map]
 rcases hn:kids[i+1]? with _ | k'
 ·simp only [Option.map_none]
  rcases hu with h | h
  ·exact .inl h
  ·exact .inr fun p hp=>h p (List.mem_flatMap.2 ⟨k,List.mem_of_getElem? hk,hp⟩)
 ·simp only [Option.map_some]
  obtain ⟨v,r,hf⟩:=(hs k' (List.mem_of_getElem? hn)).first
  refine .inr fun p hp=>?_
  obtain ⟨hi,e1⟩:=List.getElem?_eq_some_iff.1 hk
  obtain ⟨hi',e2⟩:=List.getElem?_eq_some_iff.1 hn
  have hd:kids=kids.take i++(k::k'::kids.drop (i+2)):=by
   rw [← e1, ← e2, ← List.drop_eq_getElem_cons hi', ← List.drop_eq_getElem_cons hi,List.take_append_drop]
  rw [hd,List.flatMap_append,List.flatMap_cons,List.flatMap_cons] at hr
  exact (RiseP.append.1 (RiseP.append.1 hr).2.1).2.2 p hp (k'.key,v) (List.mem_append_left _ (by rw [hf]; exact List.mem_cons_self))
theorem rise_kid (hr:RiseP (kids.flatMap Sb.prs)) {k:Sb} (hk:k∈kids):RiseP k.prs:=by
 obtain ⟨a,b,rfl⟩:=List.append_of_mem hk
 rw [List.flatMap_append,List.flatMap_cons] at hr
 exact (RiseP.append.1 (RiseP.append.1 hr).2.1).1
end
end Go.Proofs.YtgkofgifoiinkaaGreat
