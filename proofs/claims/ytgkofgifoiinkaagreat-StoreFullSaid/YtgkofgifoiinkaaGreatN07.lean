/- The shelf's contracts on sorted keys of a map from numbers, laid at this program; no condition. -/
import Derived.Test.YtgkofgifoiinkaaGreatN06
import Derived.Shelf.SlIterI.Nil
import Derived.Shelf.SortM.Plain
import Derived.Shelf.SortM.SortNone
import Derived.Ground.GgzProg
import Derived.Ground.SlgmProg
import Derived.Test.YtgkofgifoiinkaaGreatProg
namespace Go.Proofs.YtgkofgifoiinkaaGreat
open Go.RowKit
inductive Pars (l:Bytes) (lvl:Nat):List En→Int→Prop
 | nil:Pars l lvl [] 2
 | snoc {es:List En} {p p':Int} {e:En}:Pars l lvl es p→p < (l.length:Int)→takenV l p lvl=some (e,p')→Pars l lvl (es++[e]) p'
theorem takenV_some {l:Bytes} {p p':Int} {lvl:Nat} {e:En} (h:takenV l p lvl=some (e,p')):p+2≤p'∧p'≤l.length∧e.key.length≤65535∧e.val.length≤65535∧e.page≤4294967295:=by
 unfold takenV at h
 by_cases h1:tbOk l p
 ·rw [if_pos h1] at h
  have k1:=take_two_lt l p
  have hk:(tbL l p).length≤65535:=by
   unfold tbL
   rw [if_pos h1,List.length_take]
   omega
  by_cases h0:lvl=0
  ·rw [if_pos h0] at h
   by_cases h2:tbOk l (p+2+tbN l p)
   ·rw [if_pos h2] at h
    simp only [Option.some.injEq,Prod.mk.injEq] at h
    obtain ⟨rfl,rfl⟩:=h
    have k2:=take_two_lt l (p+2+tbN l p)
    have h3:=h2.2
    refine ⟨by omega,by omega,hk,?_,Nat.zero_le _⟩
    show (tbL l (p+2+tbN l p)).length≤65535
    unfold tbL
    rw [if_pos h2,List.length_take]
    omega
   ·rw [if_neg h2] at h
    cases h
  ·rw [if_neg h0] at h
   by_cases h2:takeMay l (p+2+tbN l p) 4∧4≤(l.length:Int)-(p+2+tbN l p)
   ·rw [if_pos h2] at h
    simp only [Option.some.injEq,Prod.mk.injEq] at h
    obtain ⟨rfl,rfl⟩:=h
    refine ⟨by omega,by omega,hk,Nat.zero_le _,?_⟩
    show takeN l (p+2+tbN l p) 4≤4294967295
    unfold takeN
    rw [if_pos h2]
    have:=beNat_lt ((l.drop (p+2+tbN l p:Int).toNat).take (4:Int).toNat)
    have h4:((l.drop (p+2+tbN l p:Int).toNat).take (4:Int).toNat).length≤4:=by rw [List.length_take]; exact Nat.min_le_left _ _
    have:=Nat.lt_of_lt_of_le this (Nat.pow_le_pow_right (by decide) h4)
    omega
   ·rw [if_neg h2] at h
    cases h
 ·rw [if_neg h1] at h
  cases h
theorem Pars.len {l:Bytes} {lvl:Nat} {es:List En} {p:Int} (h:Pars l lvl es p) (hl:2≤l.length):2+2*(es.length:Int)≤p∧p≤l.length∧∀ e∈es,e.key.length≤65535∧e.val.length≤65535∧e.page≤4294967295:=by
 induction h with
 | nil=>exact ⟨by simp,by omega,fun _ h=>by cases h⟩
 | snoc _ _ h2 ih =>
  have:=takenV_some h2
  rw [List.length_append]
  refine ⟨by simp; omega,by omega,fun e he=>?_⟩
  rcases List.mem_append.1 he with h3 | h3
  ·exact ih.2.2 e h3
  ·simp only [List.mem_singleton] at h3
   subst h3
   exact this.2.2
def Says (N:Nat) (l:Bytes) (r:Option (Nat × List En)):Prop :=
 match r with
 | some (lvl,es)=>(openV l).2.2=0∧(openV l).1=3∧2≤(openV l).2.1.length∧lvl=beNat ((openV l).2.1.take 2)∧Pars (openV l).2.1 lvl es (openV l).2.1.length∧MayP N lvl es
 | none=>(openV l).2.2≠0∨(openV l).1≠3∨(openV l).2.1.length < 2∨(∃ es p,Pars (openV l).2.1 (beNat ((openV l).2.1.take 2)) es p∧p < (openV l).2.1.length∧takenV (openV l).2.1 p (beNat ((openV l).2.1.take 2))=none) ∨
  ∃ es,Pars (openV l).2.1 (beNat ((openV l).2.1.take 2)) es (openV l).2.1.length∧¬ MayP N (beNat ((openV l).2.1.take 2)) es
def Openeds (w:World) (S:Nat→Prop) (N:Nat) (l:Bytes) (e:Ending) (w':World):Prop :=
 ∃ v r,e = .returned (.tuple #[v, .bool (Option.isSome r)])∧Says N l r∧Nv w' S v (match r with | some (lvl,es)=>⟨0,lvl,es,[]⟩ | none=>⟨0,0,[],[]⟩)∧Below w.heap.size w w'
def mOp (n:Nat) (e i:Value):Nat:=if intOf e=0 then n+1-(intOf i).toNat else 0
theorem mOp_zero (n:Nat) (i:Int):mOp n (err 0) (.int .i64 i)=n+1-i.toNat:=if_pos rfl
theorem mOp_ne (n:Nat) {c:Int} (i:Int) (h:c≠0):mOp n (err c) (.int .i64 i)=0:=if_neg h
theorem nv_zero (w:World) (S:Nat→Prop):Nv w S (ndv 0 0 (.slice none 0 0) (.slice none 0 0)) ⟨0,0,[],[]⟩:=Nv.of (n:=⟨0,0,[],[]⟩) (Rd.nil kdEn w S) (Bsf.nil w S)
set_option maxHeartbeats 1000000 in
theorem opened_not {b:Value} {l:Bytes} {S:Nat→Prop} (N:Nat) (w:World) (hb:Bs w b l) (h:(openV l).2.2≠0∨(openV l).1≠3) :
  Calls Tryz.prog 179 #[b, .int .i64 (N:Int)] w (Openeds w S N l):=by
 have hs:Says N l none:=h.elim .inl fun h=>.inr (.inl h)
 have hb0:Below w.heap.size w (w.alloc (.cells #[.int .i64 0, .int .i64 0, .slice none 0 0, .slice none 0 0] 179)):=(Below.refl _ _).alloc (Nat.le_refl _) _
 have C0:Cel (w.alloc (.cells #[.int .i64 0, .int .i64 0, .slice none 0 0, .slice none 0 0] 179)) w.heap.size [.int .i64 0, .int .i64 0, .slice none 0 0, .slice none 0 0] 179:=Cel.new w _ _
 have O:=blkOpen_any _ (hb.below hb0)
 unfold Opens at O
 have HH:=Lib.hid (anZ hb0 (anZ C0 hs))
 have h3:(openV l).1≠3→((((openV l).1.toNat:Nat):Int) == 3)=false:=fun h=>by
  rw [beq_eq_false_iff_ne]
  intro e
  apply h
  have e2:(openV l).1.toNat=(3:UInt8).toNat:=by
   show (openV l).1.toNat=3
   omega
  exact UInt8.toNat_inj.1 e2
 clear hb0 C0 hb hs
 generalize (openV l).1.toNat=kn at *
 generalize (openV l).2.1=bd at *
 generalize hc:(openV l).2.2=c at *
 by_cases hc0:c=0
 ·have h4:=h3 (h.resolve_left (fun h=>h hc0))
  subst hc0
  clear h h3 hc
  go_enter Tryz.func179,Tryz.ntmps179
  go_wp2_with fail
  refine O.mono ?_
  rintro e w1 ⟨v,rfl,ho,hb1⟩
  clear O
  have C1:=HH.out.2.1.below hb1 HH.out.2.1.lt
  have c0:w1.cell? ⟨w.heap.size,0,none⟩=some (.int .i64 0):=C1.cell 0
  have c1:w1.cell? ⟨w.heap.size,1,none⟩=some (.int .i64 0):=C1.cell 1
  have c2:w1.cell? ⟨w.heap.size,2,none⟩=some (.slice none 0 0):=C1.cell 2
  have c3:w1.cell? ⟨w.heap.size,3,none⟩=some (.slice none 0 0):=C1.cell 3
  have f0:=C1.frozen 0
  have f1:=C1.frozen 1
  have f2:=C1.frozen 2
  have f3:=C1.frozen 3
  go_wp2
  obtain ⟨hb0,_,hs⟩:=HH.out
  have C5:=(((C1.set 0 (.int .i64 0)).set 1 (.int .i64 0)).set 2 (.slice none 0 0)).set 3 (.slice none 0 0)
  exact bodyPost_ret (tresults_cell2 (g:=w.heap.size) rfl rfl C5 Tryz.underlying179 rfl (by kernel_rfl)) rfl ⟨_,none,rfl,hs,nv_zero _ S,
   ((((hb0.trans (hb1.mono (by simp))).setCell (p:=⟨w.heap.size,0,none⟩) (Nat.le_refl _) _).setCell (p:=⟨w.heap.size,1,none⟩) (Nat.le_refl _) _).setCell (p:=⟨w.heap.size,2,none⟩) (Nat.le_refl _) _).setCell (p:=⟨w.heap.size,3,none⟩) (Nat.le_refl _) _⟩
 ·have hcb:(c == 0)=false:=by rw [beq_eq_false_iff_ne]; exact hc0
  clear h h3 hc
  go_enter Tryz.func179,Tryz.ntmps179
  go_wp2_with fail
  refine O.mono ?_
  rintro e w1 ⟨v,rfl,ho,hb1⟩
  clear O
  have C1:=HH.out.2.1.below hb1 HH.out.2.1.lt
  have c0:w1.cell? ⟨w.heap.size,0,none⟩=some (.int .i64 0):=C1.cell 0
  have c1:w1.cell? ⟨w.heap.size,1,none⟩=some (.int .i64 0):=C1.cell 1
  have c2:w1.cell? ⟨w.heap.size,2,none⟩=some (.slice none 0 0):=C1.cell 2
  have c3:w1.cell? ⟨w.heap.size,3,none⟩=some (.slice none 0 0):=C1.cell 3
  have f0:=C1.frozen 0
  have f1:=C1.frozen 1
  have f2:=C1.frozen 2
  have f3:=C1.frozen 3
  go_wp2
  obtain ⟨hb0,_,hs⟩:=HH.out
  have C5:=(((C1.set 0 (.int .i64 0)).set 1 (.int .i64 0)).set 2 (.slice none 0 0)).set 3 (.slice none 0 0)
  exact bodyPost_ret (tresults_cell2 (g:=w.heap.size) rfl rfl C5 Tryz.underlying179 rfl (by kernel_rfl)) rfl ⟨_,none,rfl,hs,nv_zero _ S,
   ((((hb0.trans (hb1.mono (by simp))).setCell (p:=⟨w.heap.size,0,none⟩) (Nat.le_refl _) _).setCell (p:=⟨w.heap.size,1,none⟩) (Nat.le_refl _) _).setCell (p:=⟨w.heap.size,2,none⟩) (Nat.le_refl _) _).setCell (p:=⟨w.heap.size,3,none⟩) (Nat.le_refl _) _⟩
theorem Bs.below_set {w:World} {v:Value} {l:List UInt8} {g i:Nat} {u:Value} (h:Bs w v l) (hne:∀ q,v.ownBlock=some q→q≠g):Bs (w.setCell ⟨g,i,none⟩ u) v l :=
 h.only (S:=fun q=>q=g) ((Only.refl (fun q=>q=g) w).setCell (p:=⟨g,i,none⟩) (.inl rfl) u) fun q hq e=>hne q hq e
def Sofar (N:Nat) (l:Bytes) (lvl:Nat) (c:Int) (es:List En) (p:Int):Prop :=
 (c=0∧2≤(openV l).2.1.length∧lvl=beNat ((openV l).2.1.take 2)∧Pars (openV l).2.1 lvl es p)∨(c≠0∧Says N l none)
theorem Sofar.start (N:Nat) (l:Bytes):Sofar N l (takeN (openV l).2.1 0 2) (takeE (openV l).2.1 0 2) [] (takeX (openV l).2.1 0 2):=by
 have hm:takeMay (openV l).2.1 0 2:=⟨rfl,by omega,by omega⟩
 by_cases h:(2:Int)≤(openV l).2.1.length-0
 ·refine .inl ⟨?_,by omega,?_,?_⟩
  ·unfold takeE; rw [if_pos hm,if_pos h]
  ·unfold takeN; rw [if_pos ⟨hm,h⟩]; rfl
  ·unfold takeX; rw [if_pos ⟨hm,h⟩]; exact .nil
 ·refine .inr ⟨?_, .inr (.inr (.inl (by omega)))⟩
  unfold takeE; rw [if_pos hm,if_neg h]; decide
theorem ns_own {v v':Value} {w:World} (h:v'.ownBlock=v.ownBlock∨v'.ownBlock=some w.heap.size) {g:Nat} (hg:v.ownBlock≠some g) (hl:g < w.heap.size):v'.ownBlock≠some g:=by
 rcases h with h | h
 ·rw [h]; exact hg
 ·rw [h]
  intro e
  cases e
  omega
structure OpR (w:World) (S:Nat→Prop) (N:Nat) (l:Bytes) (bv:Value) (lvl:Nat) (wr:World) (c p:Int) (es:List En) (v:Value) (Sx:Nat→Prop):Prop where
 sofar:Sofar N l lvl c es p
 cel:Cel wr w.heap.size [.int .i64 0, .int .i64 (lvl:Nat),v, .slice none 0 0] 179
 ro:Ro kdEn 197 wr Sx v es
 step:Step S w wr Sx
 incl:∀ q,S q→Sx q
 node:Sx w.heap.size
 apart:v.ownBlock≠some w.heap.size
 body:Bsf wr Sx bv (openV l).2.1
 lt:∀ q,Sx q→q < wr.heap.size
 bel:Below w.heap.size w wr
 vown:∀ q,v.ownBlock=some q→w.heap.size≤q
set_option maxRecDepth 100000 in
set_option maxHeartbeats 2000000 in
theorem opened_main {b:Value} {l:Bytes} {S:Nat→Prop} (N:Nat) (w:World) (hb:Bs w b l) (hS:∀ q,S q→q < w.heap.size) (hN:N≤4096) (h0:(openV l).2.2=0) (h3:(openV l).1=3) :
  Calls Tryz.prog 179 #[b, .int .i64 (N:Int)] w (Openeds w S N l):=by
 have hb0:Below w.heap.size w (w.alloc (.cells #[.int .i64 0, .int .i64 0, .slice none 0 0, .slice none 0 0] 179)):=(Below.refl _ _).alloc (Nat.le_refl _) _
 have C0:Cel (w.alloc (.cells #[.int .i64 0, .int .i64 0, .slice none 0 0, .slice none 0 0] 179)) w.heap.size [.int .i64 0, .int .i64 0, .slice none 0 0, .slice none 0 0] 179:=Cel.new w _ _
 have O:=blkOpen_any _ (hb.below hb0)
 have hbl:(openV l).2.1.length≤505:=by
  have:=(seal_open h0).2.2
  omega
 unfold Opens at O
 have hss:=Sofar.start N l
 rw [h0,h3] at O
 have HH:=Lib.hid (anZ hb0 (anZ C0 (anZ hS hss)))
 have H3:=Lib.hid (anZ h0 (anZ h3 hbl))
 clear hb0 C0 hb h0 h3 hS hss
 go_enter Tryz.func179,Tryz.ntmps179
 go_wp2_with fail
 refine O.mono ?_
 rintro e w1 ⟨bv,rfl,ho,hb1⟩
 clear O
 obtain ⟨hb0,C0,hS,hss⟩:=HH.out
 have T:=Go.Proofs.YtgkofgifoiinkaaGreat.take_any 0 2 _ ho.bs (by omega)
 unfold Takes at T
 have hN16:takeN (openV l).2.1 0 2 < 65536:=by
  unfold takeN
  split
  ·have:=beNat_lt (((openV l).2.1.drop (0:Int).toNat).take (2:Int).toNat)
   have h2:(((openV l).2.1.drop (0:Int).toNat).take (2:Int).toNat).length≤2:=by rw [List.length_take]; exact Nat.min_le_left _ _
   exact Nat.lt_of_lt_of_le this (Nat.pow_le_pow_right (by decide) h2)
  ·decide
 have C1:=C0.below hb1 C0.lt
 have H1:=Lib.hid (anZ (hb0.trans (hb1.mono (by simp))) (anZ C1 (anZ ho (anZ hS hss))))
 clear hb0 C0 hb1 C1 ho hS hss HH
 generalize hlv:takeN (openV l).2.1 0 2=lvl at *
 generalize hat:takeX (openV l).2.1 0 2=at0 at *
 generalize hec:takeE (openV l).2.1 0 2=ec at *
 have hl0:(lvl:Int) < 65536:=by omega
 clear hlv hat hec
 go_wp2_with fail
 refine T.mono ?_
 rintro e w2 ⟨rfl,hb2⟩
 clear T
 have C2:=H1.out.2.1.below hb2 H1.out.2.1.lt
 have c1:w2.cell? ⟨w.heap.size,1,none⟩=some (.int .i64 0):=C2.cell 1
 have f1:=C2.frozen 1
 obtain ⟨ba,bc,rfl,_⟩:=H1.out.2.2.1.bs.shape
 have hstart:OpR w S N l (.slice ba (openV l).2.1.length bc) lvl (w2.setCell ⟨w.heap.size,1,none⟩ (.int .i64 (lvl:Nat))) ec at0 [] (.slice none 0 0) (fun q=>S q∨q=w.heap.size):=by
  obtain ⟨hb1,C1,ho,hS,hss⟩:=H1.out
  have hbw:=hb1.trans (hb2.mono hb1.size)
  have hst:Step S w w2 (fun q=>S q∨q=w.heap.size):=⟨Only.of_below hbw S,fun q hq=>hq.elim .inl fun e=>.inr (by omega)⟩
  refine ⟨hss,C2.set 1 _,Ro.nil _ _ _ _,hst.set (.inr rfl) _,fun q h=>.inl h, .inr rfl,(fun h=>by cases h),?_,fun q hq=>?_,hbw.setCell (p:=⟨w.heap.size,1,none⟩) (Nat.le_refl _) _,fun q h=>by cases h⟩
  ·have h1:Bs w2 (.slice ba (openV l).2.1.length bc) (openV l).2.1:=ho.bs.below hb2
   refine ⟨h1.below_set ?_,fun _ q hq hs=>?_⟩
   ·intro q hq
    have:=(World.ownsRow.lt ho q hq).1
    simp at this
    omega
   ·have h2:=(World.ownsRow.lt ho q hq).1
    simp at h2
    rcases hs with h | h
    ·have:=hS q h
     omega
    ·omega
  ·have hz:=C2.lt
   have hz2:=hbw.size
   simp only [World.setCell,Array.size_modify]
   rcases hq with h | h
   ·have:=hS q h
    omega
   ·omega
 have H2:=Lib.hid hstart
 have hbl:=H3.out.2.2
 clear hstart hb2 C2
 go_wp2
 go_loopw [8,10] (fun e i wr=>∃ c p es v Sx,e=err c∧i = .int .i64 p∧OpR w S N l (.slice ba (openV l).2.1.length bc) lvl wr c p es v Sx) (fun e i _=>mOp (openV l).2.1.length e i)
 case atStart=>exact ⟨ec,at0,[],_,_,rfl,rfl,H2.out⟩
 case round =>
  clear c1 f1 H2
  obtain ⟨c,p,es,v,Sx,rfl,rfl,hR⟩:=hrel
  by_cases hgo:c=0∧p < (openV l).2.1.length
  ·obtain ⟨rfl,hp⟩:=hgo
   obtain ⟨_,hbd2,hlv,hpar⟩:=hR.sofar.resolve_right (fun h=>h.1 rfl)
   obtain ⟨hpl,hpm,hfew⟩:=hpar.len hbd2
   have hz:=hR.cel.lt
   have k1:wr.cell? ⟨w.heap.size,1,none⟩=some (.int .i64 (lvl:Nat)):=hR.cel.cell 1
   have hwa:Below wr.heap.size wr (wr.alloc (.cells #[.slice none 0 0, .slice none 0 0, .int .i64 0] 197)):=(Below.refl _ _).alloc (Nat.le_refl _) _
   have CE:Cel (wr.alloc (.cells #[.slice none 0 0, .slice none 0 0, .int .i64 0] 197)) wr.heap.size [.slice none 0 0, .slice none 0 0, .int .i64 0] 197:=Cel.new wr _ _
   have T:=taken_any p lvl _ (hR.body.1.below hwa) (by omega)
   have hza:(wr.alloc (.cells #[.slice none 0 0, .slice none 0 0, .int .i64 0] 197)).heap.size=wr.heap.size+1:=by simp
   have k1a:(wr.alloc (.cells #[.slice none 0 0, .slice none 0 0, .int .i64 0] 197)).cell? ⟨w.heap.size,1,none⟩=some (.int .i64 (lvl:Nat)):=(hwa.cell (p:=⟨w.heap.size,1,none⟩) hz).trans k1
   have H4:=Lib.hid (anZ hR (anZ hbd2 (anZ hlv (anZ hpar (anZ hpl (anZ hpm hfew))))))
   have H5:=Lib.hid (anZ hwa (anZ CE (anZ hza hz)))
   clear hR hbd2 hlv hpar hpl hpm hfew hwa CE hza hz k1
   unfold Takens at T
   generalize hr:takenV (openV l).2.1 p lvl=r at *
   have H6:=Lib.hid hr
   clear hr
   go_wp2_with fail
   refine T.mono ?_
   rintro e w3 ⟨kv,vv,nx,c',en,rfl,hok,hov,hb3,hres⟩
   clear T k1a
   obtain ⟨hR,hbd2,hlv,hpar,hpl,hpm,hfew⟩:=H4.out
   obtain ⟨hwa,CE,hza,hz⟩:=H5.out
   have CE3:=CE.below hb3 CE.lt
   have e0:w3.cell? ⟨wr.heap.size,0,none⟩=some (.slice none 0 0):=CE3.cell 0
   have e1:w3.cell? ⟨wr.heap.size,1,none⟩=some (.slice none 0 0):=CE3.cell 1
   have e2:w3.cell? ⟨wr.heap.size,2,none⟩=some (.int .i64 0):=CE3.cell 2
   have g0:=CE3.frozen 0
   have g1:=CE3.frozen 1
   have g2:=CE3.frozen 2
   obtain ⟨ka,kc,rfl,_⟩:=hok.bs.shape
   obtain ⟨va,vc,rfl,_⟩:=hov.bs.shape
   have CE4:=((CE3.set 0 (.slice ka en.key.length kc)).set 1 (.slice va en.val.length vc)).set 2 (.int .i64 (en.page:Nat))
   have hw3:=hwa.trans (hb3.mono (by omega))
   have hR3:Ro kdEn 197 w3 Sx v es:=hR.ro.below hw3
   have C3:=hR.cel.below hw3 hz
   obtain ⟨sa,sc,rfl,_⟩:=hR.ro.shape
   have n2:w3.cell? ⟨w.heap.size,2,none⟩=some (.slice sa es.length sc):=C3.cell 2
   have m2:=C3.frozen 2
   obtain ⟨w4,hw4⟩:∃ w4,w4=((w3.setCell ⟨wr.heap.size,0,none⟩ (.slice ka en.key.length kc)).setCell ⟨wr.heap.size,1,none⟩ (.slice va en.val.length vc)).setCell ⟨wr.heap.size,2,none⟩ (.int .i64 (en.page:Nat)):=⟨_,rfl⟩
   have hlt:=hR.lt
   have stw:Step Sx wr w4 Sx:=by
    rw [hw4]
    exact ⟨(((Only.of_below hw3 Sx).setCell (p:=⟨wr.heap.size,0,none⟩) (.inr (Nat.le_refl _)) _).setCell (p:=⟨wr.heap.size,1,none⟩) (.inr (Nat.le_refl _)) _).setCell (p:=⟨wr.heap.size,2,none⟩) (.inr (Nat.le_refl _)) _,fun _ h=>.inl h⟩
   have hsame:∀ g,g < wr.heap.size→w4.heap[g]? = wr.heap[g]?:=fun g hg=>by
    rw [hw4,Below.heap_setCell _ _ _ _ (by simp; omega),Below.heap_setCell _ _ _ _ (by simp; omega),Below.heap_setCell _ _ _ _ (by simp; omega)]
    exact hw3.block g hg
   have hRo4:Ro kdEn 197 w4 Sx (.slice sa es.length sc) es:=hR.ro.keep (fun g hg=>hsame g (hlt g (hR.ro.inS hg))) stw (fun _ h=>h)
   have hz4:w4.heap.size=w3.heap.size:=by rw [hw4]; simp [World.setCell]
   have own4:∀ {v:Value} {m:Bytes},Ow w3 (wr.alloc (.cells #[.slice none 0 0, .slice none 0 0, .int .i64 0] 197)).heap.size 5 v m→Bsf w4 Sx v m:=fun ho=>by
    rw [hza] at ho
    refine ⟨?_,fun _ q hq hs=>?_⟩
    ·rw [hw4]
     exact (ow_off (ow_off (ow_off ho (Nat.lt_succ_self _)) (Nat.lt_succ_self _)) (Nat.lt_succ_self _)).bs
    ·have:=(World.ownsRow.lt ho q hq).1
     have:=hlt q hs
     omega
   have lit:Rd kdEn (w4.alloc (.cells #[.slice ka en.key.length kc, .slice va en.val.length vc, .int .i64 (en.page:Nat)] 197)) Sx (.slice (some ⟨w4.heap.size,0,none⟩) 1 1) [en] :=
    rd_lit kdEn w4 197 Sx (fun q hq=>Nat.lt_of_lt_of_le (hlt q hq) stw.size) [⟨⟨ka,en.key.length,kc⟩,⟨va,en.val.length,vc⟩,en⟩] _ rfl (fun t ht=>by
     simp only [List.mem_singleton] at ht
     subst ht
     exact ⟨own4 hok,own4 hov⟩) (by simp) rfl
   have hRo5:=hRo4.below ((Below.refl w4.heap.size w4).alloc (Nat.le_refl _) (.cells #[.slice ka en.key.length kc, .slice va en.val.length vc, .int .i64 (en.page:Nat)] 197))
   have C6:∀ w6,(w4.alloc (.cells #[.slice ka en.key.length kc, .slice va en.val.length vc, .int .i64 (en.page:Nat)] 197)).grownBy w6 (Value.slice sa es.length sc).ownBlock→Cel w6 w.heap.size [.int .i64 0, .int .i64 (lvl:Nat), .slice sa es.length sc, .slice none 0 0] 179:=fun w6 hg=>by
    have h4:Cel w4 w.heap.size [.int .i64 0, .int .i64 (lvl:Nat), .slice sa es.length sc, .slice none 0 0] 179:=hR.cel.kept (hsame _ hz)
    exact (h4.alloc _).kept (hg.block _ (h4.alloc _).lt fun e=>hR.apart e.symm)
   have stA:Step Sx wr (w4.alloc (.cells #[.slice ka en.key.length kc, .slice va en.val.length vc, .int .i64 (en.page:Nat)] 197)) Sx:=stw.alloc _
   have blA:Below w.heap.size w w4:=by
    rw [hw4]
    exact (((hR.bel.trans (hw3.mono hR.bel.size)).setCell (p:=⟨wr.heap.size,0,none⟩) hR.bel.size _).setCell (p:=⟨wr.heap.size,1,none⟩) hR.bel.size _).setCell (p:=⟨wr.heap.size,2,none⟩) hR.bel.size _
   have hwz:w.heap.size < (w4.alloc (.cells #[.slice ka en.key.length kc, .slice va en.val.length vc, .int .i64 (en.page:Nat)] 197)).heap.size:=by have:=stA.size; omega
   have HC:=Lib.hid C6
   have HS:=Lib.hid (anZ stA (anZ hwz (blA.alloc blA.size (.cells #[.slice ka en.key.length kc, .slice va en.val.length vc, .int .i64 (en.page:Nat)] 197))))
   rw [hz4] at lit
   rw [hw4] at lit hRo5 HC HS
   have hne:w.heap.size≠wr.heap.size:=by omega
   have hn1:es.length+[en].length≤4294967296:=by simp; omega
   have H7:=Lib.hid (anZ hR (anZ hres (anZ hp (anZ hbd2 (anZ hlv (anZ hpar hpl))))))
   clear hz4 C6 stA blA hwz own4 hsame stw hR hbd2 hlv hpar hpl hpm hfew hwa CE hza CE3 CE4 hw3 hR3 C3 hRo4 hlt hok hov hb3 hres hw4 H5
   go_wp2_with (at_builtin; refine wpList_append_ro ent_ty rfl (.tmp 52) (.tmp 54) rfl rfl rfl hRo5 lit hn1 ?_; intro v' w6 ro6 st6 gr6 lo6; obtain ⟨ua,uc,rfl,_⟩:=ro6.shape; have C6:=HC.out _ gr6; have q2:w6.cell? ⟨w.heap.size,2,none⟩=some (.slice sa es.length sc):=C6.cell 2; have r2:=C6.frozen 2; have H9:=Lib.hid (anZ ro6 (anZ st6 (anZ lo6 (anZ C6 gr6)))); clear ro6 st6 gr6 lo6 C6 hRo5 lit)
   go_roundw
   case rel =>
    obtain ⟨ro6,st6,lo6,C6,gr6⟩:=H9.out
    obtain ⟨hR,hres,hp,hbd2,hlv,hpar,hpl⟩:=H7.out
    obtain ⟨stA,hwz,blA⟩:=HS.out
    have hl1:(es++[en]).length=es.length+1:=by simp
    rw [hl1] at ro6 st6 lo6
    have hap:=ns_own lo6 hR.apart hwz
    have hnode:Sv Sx (.slice ua (es.length+1) uc) w.heap.size:=.inl hR.node
    have hst:=((stA.trans st6).set (p:=⟨w.heap.size,2,none⟩) hnode (.slice ua (es.length+1) uc))
    refine ⟨c',nx,es++[en], .slice ua (es.length+1) uc,_,rfl,rfl,?_,?_,?_,hR.step.trans hst,fun q h=>.inl (hR.incl q h),hnode,hap,hR.body.step hst,fun q hq=>?_,(blA.grown gr6 blA.size fun k hk=>hR.vown k hk).setCell (p:=⟨w.heap.size,2,none⟩) (Nat.le_refl _) _,fun q hq=>?_⟩
    ·rcases r with _ | ⟨en',nx'⟩
     ·exact .inr ⟨hres.1, .inr (.inr (.inr (.inl ⟨es,p,hlv ▸ hpar,hp,hlv ▸ H6.out⟩)))⟩
     ·obtain ⟨rfl,rfl,rfl⟩:=hres
      exact .inl ⟨rfl,hbd2,hlv, .snoc hpar hp H6.out⟩
    ·exact C6.set 2 _
    ·exact ro6.keep (fun g hg=>Below.heap_setCell _ _ _ _ (fun e=>by subst e; exact hap hg)) ((Step.refl _ _).set (p:=⟨w.heap.size,2,none⟩) hnode _) (fun _ h=>h)
    ·rcases hq with h | h
     ·exact Nat.lt_of_lt_of_le (hR.lt q h) hst.size
     ·have:=ro6.own h
      simpa [World.setCell] using this
    ·rcases lo6 with h | h
     ·exact hR.vown q (h ▸ hq)
     ·rw [h] at hq
      cases hq
      exact Nat.le_of_lt hwz
   case measure =>
    obtain ⟨hR,hres,hp,hbd2,hlv,hpar,hpl⟩:=H7.out
    rw [mOp_zero]
    rcases r with _ | ⟨en',nx'⟩
    ·rw [mOp_ne _ _ hres.1]
     omega
    ·obtain ⟨rfl,rfl,rfl⟩:=hres
     have:=takenV_some H6.out
     rw [mOp_zero]
     omega
  ·by_cases hc:c=0
   ·obtain ⟨_,hbd2,hlv,hpar⟩:=hR.sofar.resolve_right (fun h=>h.1 hc)
    obtain ⟨hpl,hpm,hfew⟩:=hpar.len hbd2
    obtain rfl:p=(openV l).2.1.length:=by
     have:¬ p < (openV l).2.1.length:=fun h=>hgo ⟨hc,h⟩
     omega
    subst hc
    have e0:wr.cell? ⟨w.heap.size,0,none⟩=some (.int .i64 0):=hR.cel.cell 0
    have e1:wr.cell? ⟨w.heap.size,1,none⟩=some (.int .i64 (lvl:Nat)):=hR.cel.cell 1
    have e2:wr.cell? ⟨w.heap.size,2,none⟩=some v:=hR.cel.cell 2
    have e3:wr.cell? ⟨w.heap.size,3,none⟩=some (.slice none 0 0):=hR.cel.cell 3
    have hS:=H1.out.2.2.2.1
    have hrd:Rd kdEn wr (fun q=>S q∨q=w.heap.size) v es:=hR.ro.rd (fun q h=>h.elim (hR.incl q) fun e=>e ▸ hR.node) (fun q hq hs=>by
     rcases hs with hs | hs
     ·have:=hR.vown q hq
      have:=hS q hs
      omega
     ·subst hs
      exact hR.apart hq)
    have M:=may_any (p:=0) (N:=N) (lvl:=lvl) (tv:=.slice none 0 0) wr hrd hN (by omega)
    obtain ⟨sa,sc,rfl,_⟩:=hR.ro.shape
    have H4:=Lib.hid (anZ hR (anZ hbd2 (anZ hlv (anZ hpar hrd))))
    clear hR hgo hbd2 hlv hpar hpl hpm hfew hrd hS
    go_wp2_with fail
    refine M.mono ?_
    rintro e w3 ⟨bb,rfl,hbb,hb3⟩
    clear M
    obtain ⟨hR,hbd2,hlv,hpar,hrd⟩:=H4.out
    have C3:=hR.cel.below hb3 hR.cel.lt
    have e0:w3.cell? ⟨w.heap.size,0,none⟩=some (.int .i64 0):=C3.cell 0
    have e1:w3.cell? ⟨w.heap.size,1,none⟩=some (.int .i64 (lvl:Nat)):=C3.cell 1
    have e2:w3.cell? ⟨w.heap.size,2,none⟩=some (.slice sa es.length sc):=C3.cell 2
    have e3:w3.cell? ⟨w.heap.size,3,none⟩=some (.slice none 0 0):=C3.cell 3
    have f0:=C3.frozen 0
    have f1:=C3.frozen 1
    have f2:=C3.frozen 2
    have f3:=C3.frozen 3
    have hbw:=hR.bel.trans (hb3.mono hR.bel.size)
    have H5:=Lib.hid (anZ C3 (anZ hbw (anZ hbb hb3)))
    clear hR hbd2 hlv hpar hrd C3 hbw hbb hb3
    rcases bb with _ | _
    ·go_wp2
     obtain ⟨hR,hbd2,hlv,hpar,hrd⟩:=H4.out
     obtain ⟨C3,hbw,hbb,hb3⟩:=H5.out
     have hs:Says N l none:=.inr (.inr (.inr (.inr ⟨es,hlv ▸ hpar,fun h=>Bool.noConfusion (hbb.2 (hlv ▸ h))⟩)))
     have C5:=(((C3.set 0 (.int .i64 0)).set 1 (.int .i64 0)).set 2 (.slice none 0 0)).set 3 (.slice none 0 0)
     exact bodyPost_ret (tresults_cell2 (g:=w.heap.size) rfl rfl C5 Tryz.underlying179 rfl (by kernel_rfl)) rfl ⟨_,none,rfl,hs,nv_zero _ S,
      (((hbw.setCell (p:=⟨w.heap.size,0,none⟩) (Nat.le_refl _) _).setCell (p:=⟨w.heap.size,1,none⟩) (Nat.le_refl _) _).setCell (p:=⟨w.heap.size,2,none⟩) (Nat.le_refl _) _).setCell (p:=⟨w.heap.size,3,none⟩) (Nat.le_refl _) _⟩
    ·go_wp2
     obtain ⟨hR,hbd2,hlv,hpar,hrd⟩:=H4.out
     obtain ⟨C3,hbw,hbb,hb3⟩:=H5.out
     have hs:Says N l (some (lvl,es)):=⟨H3.out.1,H3.out.2.1,hbd2,hlv,hpar,hbb.1 (by trivial)⟩
     have C5:=(((C3.set 0 (.int .i64 0)).set 1 (.int .i64 (lvl:Nat))).set 2 (.slice sa es.length sc)).set 3 (.slice none 0 0)
     have hst:=((((Step.of_below hb3 (fun q=>S q∨q=w.heap.size)).set (p:=⟨w.heap.size,0,none⟩) (.inr rfl) (.int .i64 0)).set (p:=⟨w.heap.size,1,none⟩) (.inr rfl) (.int .i64 (lvl:Nat))).set (p:=⟨w.heap.size,2,none⟩) (.inr rfl) (.slice sa es.length sc)).set (p:=⟨w.heap.size,3,none⟩) (.inr rfl) (.slice none 0 0)
     exact bodyPost_ret (tresults_cell2 (g:=w.heap.size) rfl rfl C5 Tryz.underlying179 rfl (by kernel_rfl)) rfl ⟨_,some (lvl,es),rfl,hs,Nv.of (n:=⟨0,lvl,es,[]⟩) ((hrd.step hst).less fun q h=>.inl h) (Bsf.nil _ _),
      (((hbw.setCell (p:=⟨w.heap.size,0,none⟩) (Nat.le_refl _) _).setCell (p:=⟨w.heap.size,1,none⟩) (Nat.le_refl _) _).setCell (p:=⟨w.heap.size,2,none⟩) (Nat.le_refl _) _).setCell (p:=⟨w.heap.size,3,none⟩) (Nat.le_refl _) _⟩
   ·have hcb:(c == 0)=false:=by rw [beq_eq_false_iff_ne]; exact hc
    obtain ⟨_,hs⟩:=hR.sofar.resolve_left (fun h=>hc h.1)
    have e0:wr.cell? ⟨w.heap.size,0,none⟩=some (.int .i64 0):=hR.cel.cell 0
    have e1:wr.cell? ⟨w.heap.size,1,none⟩=some (.int .i64 (lvl:Nat)):=hR.cel.cell 1
    have e2:wr.cell? ⟨w.heap.size,2,none⟩=some v:=hR.cel.cell 2
    have e3:wr.cell? ⟨w.heap.size,3,none⟩=some (.slice none 0 0):=hR.cel.cell 3
    have f0:=hR.cel.frozen 0
    have f1:=hR.cel.frozen 1
    have f2:=hR.cel.frozen 2
    have f3:=hR.cel.frozen 3
    have H4:=Lib.hid (anZ hR hs)
    obtain ⟨sa,sc,rfl,_⟩:=hR.ro.shape
    clear hR hs hgo hc
    go_wp2
    obtain ⟨hR,hs⟩:=H4.out
    have C5:=(((hR.cel.set 0 (.int .i64 0)).set 1 (.int .i64 0)).set 2 (.slice none 0 0)).set 3 (.slice none 0 0)
    exact bodyPost_ret (tresults_cell2 (g:=w.heap.size) rfl rfl C5 Tryz.underlying179 rfl (by kernel_rfl)) rfl ⟨_,none,rfl,hs,nv_zero _ S,
     (((hR.bel.setCell (p:=⟨w.heap.size,0,none⟩) (Nat.le_refl _) _).setCell (p:=⟨w.heap.size,1,none⟩) (Nat.le_refl _) _).setCell (p:=⟨w.heap.size,2,none⟩) (Nat.le_refl _) _).setCell (p:=⟨w.heap.size,3,none⟩) (Nat.le_refl _) _⟩
theorem topened_any {b:Value} {l:Bytes} {S:Nat→Prop} (N:Nat) (w:World) (hb:Bs w b l) (hS:∀ q,S q→q < w.heap.size) (hN:N≤4096) :
  Calls Tryz.prog 179 #[b, .int .i64 (N:Int)] w (Openeds w S N l):=by
 by_cases h0:(openV l).2.2=0
 ·by_cases h3:(openV l).1=3
  ·exact opened_main N w hb hS hN h0 h3
  ·exact opened_not N w hb (.inr h3)
 ·exact opened_not N w hb (.inl h0)
end Go.Proofs.YtgkofgifoiinkaaGreat
namespace Go.Proofs.YtgkofgifoiinkaaGreat
open Go.RowKit
def EnOk (lvl:Nat) (e:En):Prop:=e.key.length≤65535∧e.val.length≤65535∧e.page≤4294967295∧(lvl=0→e.page=0)∧(lvl≠0→e.val=[])
theorem drop_at {A C:Bytes} {p:Nat} (h:A.length=p):(A++C).drop p=C:=by
 subst h
 simp
theorem tb_at {A X C:Bytes} {p:Nat} (hp:A.length=p) (hx:X.length≤65535):tbOk (A++(beL X.length 2++(X++C))) p∧tbN (A++(beL X.length 2++(X++C))) p=X.length∧tbL (A++(beL X.length 2++(X++C))) p=X:=by
 have h1:tbN (A++(beL X.length 2++(X++C))) p=X.length:=by
  unfold tbN
  rw [Int.toNat_natCast,drop_at hp,List.take_append_of_le_length (by rw [beL_length]; omega),beL_take_all,beNat_beL,Nat.mod_eq_of_lt (by omega)]
 have h2:tbOk (A++(beL X.length 2++(X++C))) p:=by
  refine ⟨⟨rfl,by omega,?_⟩,?_⟩
  ·simp only [List.length_append]
   omega
  ·rw [h1]
   simp only [List.length_append,beL_length]
   omega
 refine ⟨h2,h1,?_⟩
 unfold tbL
 rw [if_pos h2,h1,Int.toNat_natCast]
 have e:A++(beL X.length 2++(X++C))=(A++beL X.length 2)++(X++C):=by rw [List.append_assoc]
 rw [e,drop_at (by rw [List.length_append,beL_length,hp]),List.take_append_of_le_length (Nat.le_refl _),List.take_length]
theorem takenV_enc {lvl:Nat} {e:En} {A C:Bytes} {p:Nat} (hp:A.length=p) (h:EnOk lvl e):takenV (A++(encE lvl e++C)) p lvl=some (e,(p:Int)+esize lvl e):=by
 obtain ⟨h1,h2,h3,h4,h5⟩:=h
 unfold takenV encE esize
 by_cases h0:lvl=0
 ·rw [if_pos h0,if_pos h0,if_pos h0]
  have e1:A++(beL e.key.length 2++(e.key++(beL e.val.length 2++e.val))++C)=A++(beL e.key.length 2++(e.key++(beL e.val.length 2++(e.val++C)))):=by simp
  rw [e1]
  obtain ⟨k1,k2,k3⟩:=tb_at (C:=beL e.val.length 2++(e.val++C)) hp h1
  have e2:A++(beL e.key.length 2++(e.key++(beL e.val.length 2++(e.val++C))))=(A++beL e.key.length 2++e.key)++(beL e.val.length 2++(e.val++C)):=by simp
  obtain ⟨m1,m2,m3⟩:=tb_at (A:=A++beL e.key.length 2++e.key) (X:=e.val) (C:=C) (p:=p+2+e.key.length) (by simp [beL_length,hp]; omega) h2
  rw [← e2] at m1 m2 m3
  rw [if_pos k1,k2,k3]
  have e3:(p:Int)+2+(e.key.length:Nat)=((p+2+e.key.length:Nat):Int):=by omega
  rw [e3,if_pos m1,m2,m3]
  have e4:(⟨e.key,e.val,0⟩:En)=e:=by
   have:=h4 h0
   rw [← this]
  rw [e4]
  congr 2
  omega
 ·rw [if_neg h0,if_neg h0,if_neg h0]
  have e1:A++(beL e.key.length 2++(e.key++beL e.page 4)++C)=A++(beL e.key.length 2++(e.key++(beL e.page 4++C))):=by simp
  rw [e1]
  obtain ⟨k1,k2,k3⟩:=tb_at (C:=beL e.page 4++C) hp h1
  have e2:A++(beL e.key.length 2++(e.key++(beL e.page 4++C)))=(A++beL e.key.length 2++e.key)++(beL e.page 4++C):=by simp
  rw [if_pos k1,k2,k3]
  have e3:(p:Int)+2+(e.key.length:Nat)=((p+2+e.key.length:Nat):Int):=by omega
  have hl:(A++beL e.key.length 2++e.key).length=p+2+e.key.length:=by simp [beL_length,hp]; omega
  have m1:takeMay (A++(beL e.key.length 2++(e.key++(beL e.page 4++C)))) ((p+2+e.key.length:Nat):Int) 4∧(4:Int)≤((A++(beL e.key.length 2++(e.key++(beL e.page 4++C)))).length:Nat)-((p+2+e.key.length:Nat):Int):=by
   refine ⟨⟨rfl,by omega,?_⟩,?_⟩ <;> (simp only [List.length_append,beL_length]; omega)
  rw [e3,if_pos m1]
  have m2:takeN (A++(beL e.key.length 2++(e.key++(beL e.page 4++C)))) ((p+2+e.key.length:Nat):Int) 4=e.page:=by
   unfold takeN
   rw [if_pos m1,e2,Int.toNat_natCast,drop_at hl]
   show beNat ((beL e.page 4++C).take 4)=_
   rw [List.take_append_of_le_length (by rw [beL_length]; omega),beL_take_all,beNat_beL,Nat.mod_eq_of_lt (by omega)]
  rw [m2]
  have e4:(⟨e.key,[],e.page⟩:En)=e:=by
   have:=h5 h0
   rw [← this]
  rw [e4]
  congr 2
  omega
theorem takenV_body {lvl:Nat} {es:List En} (h:∀ e∈es,EnOk lvl e) {k:Nat} {e:En} (hk:es[k]? = some e):takenV (bodyL lvl es) ((2+nsize lvl (es.take k):Nat):Int) lvl=some (e,((2+nsize lvl (es.take (k+1)):Nat):Int)):=by
 have hkl:=(List.getElem?_eq_some_iff.1 hk).1
 have e1:bodyL lvl es=bodyL lvl (es.take k)++(encE lvl e++(es.drop (k+1)).flatMap (encE lvl)):=by
  have:es=es.take k++(e::es.drop (k+1)):=by
   have h2:=(List.getElem?_eq_some_iff.1 hk).2
   rw [← h2, ← List.drop_eq_getElem_cons hkl,List.take_append_drop]
  conv=>lhs; rw [this]
  unfold bodyL
  simp
 rw [e1,takenV_enc (bodyL_length lvl (es.take k)) (h e (List.mem_of_getElem? hk)),nsize_take_succ lvl es k e hk]
 congr 2
 omega
theorem pars_body {lvl:Nat} {es es':List En} {p:Int} (h:∀ e∈es,EnOk lvl e) (hp:Pars (bodyL lvl es) lvl es' p):∃ k,k≤es.length∧es'=es.take k∧p=((2+nsize lvl (es.take k):Nat):Int):=by
 induction hp with
 | nil=>exact ⟨0,Nat.zero_le _,rfl,rfl⟩
 | snoc _ hlt ht ih =>
  obtain ⟨k,hk,rfl,rfl⟩:=ih
  rw [bodyL_length] at hlt
  have hkl:k < es.length:=by
   rcases Nat.lt_or_ge k es.length with h1 | h1
   ·exact h1
   ·rw [List.take_of_length_le h1] at hlt
    omega
  obtain ⟨a,ha⟩:∃ a,es[k]? = some a:=⟨_,List.getElem?_eq_getElem hkl⟩
  rw [takenV_body h ha] at ht
  simp only [Option.some.injEq,Prod.mk.injEq] at ht
  obtain ⟨rfl,rfl⟩:=ht
  refine ⟨k+1,hkl,?_,rfl⟩
  rw [List.take_add_one,ha]
  rfl
theorem take_whole {lvl:Nat} {es:List En} {k:Nat} (h:nsize lvl (es.take k)=nsize lvl es):es.take k=es:=by
 have h1:=nsize_append lvl (es.take k) (es.drop k)
 rw [List.take_append_drop] at h1
 have h2:es.drop k=[]:=by
  rcases hd:es.drop k with _ | ⟨a,r⟩
  ·rfl
  ·have:=nsize_pos lvl (l:=es.drop k) (by rw [hd]; simp)
   omega
 have:=List.take_append_drop k es
 rw [h2,List.append_nil] at this
 exact this
theorem says_seal {N lvl:Nat} {es:List En} {r:Option (Nat × List En)} (hm:MayP N lvl es) (he:∀ e∈es,EnOk lvl e) (hs:nsize lvl es≤503) (hl:lvl≤65535) (h:Says N (sealL 3 (bodyL lvl es)) r):r=some (lvl,es):=by
 have ho:openV (sealL 3 (bodyL lvl es))=(3,bodyL lvl es,0):=open_seal (by decide) (by rw [bodyL_length]; omega)
 have hlv:beNat ((bodyL lvl es).take 2)=lvl:=by
  unfold bodyL
  rw [List.take_append_of_le_length (by rw [beL_length]; omega),beL_take_all,beNat_beL,Nat.mod_eq_of_lt (by omega)]
 unfold Says at h
 rw [ho] at h
 simp only [hlv] at h
 rcases r with _ | ⟨lvl',es'⟩
 ·exfalso
  rcases h with h | h | h | ⟨es',p,hp,hlt,ht⟩ | ⟨es',hp,hn⟩
  ·exact h rfl
  ·exact h rfl
  ·rw [bodyL_length] at h; omega
  ·obtain ⟨k,hk,rfl,rfl⟩:=pars_body he hp
   rw [bodyL_length] at hlt
   have hkl:k < es.length:=by
    rcases Nat.lt_or_ge k es.length with h1 | h1
    ·exact h1
    ·rw [List.take_of_length_le h1] at hlt
     omega
   rw [takenV_body he (List.getElem?_eq_getElem hkl)] at ht
   cases ht
  ·obtain ⟨k,hk,rfl,e⟩:=pars_body he hp
   rw [bodyL_length] at e
   rw [take_whole (lvl:=lvl) (k:=k) (by omega)] at hn
   exact hn hm
 ·simp only at h
  obtain ⟨_,_,_,rfl,hp,_⟩:=h
  obtain ⟨k,hk,rfl,e⟩:=pars_body he hp
  rw [bodyL_length] at e
  rw [take_whole (lvl:=lvl') (k:=k) (by omega)]
end Go.Proofs.YtgkofgifoiinkaaGreat
namespace Go.Proofs
open Go.Shelf
def Tryz.keysA_ren:Go.Shelf.Ren:=⟨fun | 7=>113 | 10=>142 | n=>n,fun | 23=>70 | 26=>3 | 3=>69 | 28=>166 | 0=>0 | 27=>165 | 33=>146 | 4=>4 | n=>n,fun | n=>n⟩
theorem Tryz.keysA:Go.Proofs.SlLaysZI.n7 Tryz.prog Tryz.keysA_ren:={
 mixed:=by kernel_rfl
 f7:=⟨Tryz.f113.name,by decide,Tryz.func113.trans (congrArg some (by kernel_rfl))⟩
 f10:=⟨Tryz.f142.name,by decide,Tryz.func142.trans (congrArg some (by kernel_rfl))⟩
 t0:=Tryz.underlying0
 a0:=Tryz.isAgg0
 z0:=Tryz.sizeOf0
 v0:=Tryz.zeroValue0
 t4:=Tryz.underlying4
 a4:=Tryz.isAgg4
 z4:=Tryz.sizeOf4
 v4:=Tryz.zeroValue4
 t23:=Tryz.underlying70
 a23:=Tryz.isAgg70
 z23:=Tryz.sizeOf70
 v23:=Tryz.zeroValue70
 t26:=Tryz.underlying3
 a26:=Tryz.isAgg3
 z26:=Tryz.sizeOf3
 v26:=Tryz.zeroValue3
 t27:=Tryz.underlying165
 a27:=Tryz.isAgg165
 z27:=Tryz.sizeOf165
 v27:=Tryz.zeroValue165
 t28:=Tryz.underlying166
 a28:=Tryz.isAgg166
 z28:=Tryz.sizeOf166
 v28:=Tryz.zeroValue166
 t33:=Tryz.underlying146
 a33:=Tryz.isAgg146
 z33:=Tryz.sizeOf146
 v33:=Tryz.zeroValue146 }
def Tryz.sortedA_ren:Go.Shelf.Ren:=⟨fun | 6=>112 | 8=>141 | 9=>118 | 11=>177 | 13=>122 | 12=>147 | 23=>160 | 24=>161 | 14=>182 | 15=>183 | 16=>184 | 17=>185 | 18=>186 | 19=>187 | 20=>188 | 21=>189 | 22=>190 | 25=>210 | 26=>193 | 27=>194 | 28=>211 | 29=>212 | 30=>213 | 31=>220 | n=>n,fun | 26=>3 | 28=>166 | 24=>40 | 0=>0 | 3=>3 | 37=>59 | 48=>227 | 50=>73 | 4=>4 | 40=>219 | 39=>218 | 45=>224 | 5=>5 | 9=>9 | 51=>249 | 55=>253 | 57=>265 | 58=>266 | 33=>146 | n=>n,fun | n=>n⟩
theorem Tryz.sortedA:Go.Proofs.SlLaysZI.n6 Tryz.prog Tryz.sortedA_ren:={
 mixed:=by kernel_rfl
 f6:=⟨Tryz.f112.name,by decide,Tryz.func112.trans (congrArg some (by kernel_rfl))⟩
 f8:=⟨Tryz.f141.name,by decide,Tryz.func141.trans (congrArg some (by kernel_rfl))⟩
 f11:=⟨Tryz.f177.name,by decide,Tryz.func177.trans (congrArg some (by kernel_rfl))⟩
 t0:=Tryz.underlying0
 a0:=Tryz.isAgg0
 z0:=Tryz.sizeOf0
 v0:=Tryz.zeroValue0
 t24:=Tryz.underlying40
 a24:=Tryz.isAgg40
 z24:=Tryz.sizeOf40
 v24:=Tryz.zeroValue40
 t26:=Tryz.underlying3
 a26:=Tryz.isAgg3
 z26:=Tryz.sizeOf3
 v26:=Tryz.zeroValue3
 t28:=Tryz.underlying166
 a28:=Tryz.isAgg166
 z28:=Tryz.sizeOf166
 v28:=Tryz.zeroValue166
 i26:=by kernel_rfl }
def Tryz.sortA_ren:Go.Shelf.Ren:=⟨fun | 5=>118 | 8=>122 | 7=>147 | 19=>160 | 20=>161 | 10=>182 | 11=>183 | 12=>184 | 13=>185 | 14=>186 | 15=>187 | 16=>188 | 17=>189 | 18=>190 | 30=>210 | 31=>193 | 32=>194 | 33=>211 | 34=>212 | 35=>213 | 40=>220 | n=>n,fun | 23=>40 | 25=>3 | 3=>3 | 32=>59 | 22=>40 | 0=>0 | 44=>227 | 46=>73 | 4=>4 | 36=>219 | 35=>218 | 41=>224 | 5=>5 | 9=>9 | 53=>249 | 57=>253 | 63=>265 | 64=>266 | n=>n,fun | n=>n⟩
theorem Tryz.sortA:Go.Proofs.SlLaysM.n5 Tryz.prog Tryz.sortA_ren:={
 mixed:=by kernel_rfl
 f5:=⟨Tryz.f118.name,by decide,Tryz.func118.trans (congrArg some (by kernel_rfl))⟩
 f7:=⟨Tryz.f147.name,by decide,Tryz.func147.trans (congrArg some (by kernel_rfl))⟩
 f8:=Tryz.func122.trans (congrArg some (by kernel_rfl))
 f10:=⟨Tryz.f182.name,by decide,Tryz.func182.trans (congrArg some (by kernel_rfl))⟩
 f11:=⟨Tryz.f183.name,by decide,Tryz.func183.trans (congrArg some (by kernel_rfl))⟩
 f12:=⟨Tryz.f184.name,by decide,Tryz.func184.trans (congrArg some (by kernel_rfl))⟩
 f13:=⟨Tryz.f185.name,by decide,Tryz.func185.trans (congrArg some (by kernel_rfl))⟩
 f14:=⟨Tryz.f186.name,by decide,Tryz.func186.trans (congrArg some (by kernel_rfl))⟩
 f15:=⟨Tryz.f187.name,by decide,Tryz.func187.trans (congrArg some (by kernel_rfl))⟩
 f16:=⟨Tryz.f188.name,by decide,Tryz.func188.trans (congrArg some (by kernel_rfl))⟩
 f17:=⟨Tryz.f189.name,by decide,Tryz.func189.trans (congrArg some (by kernel_rfl))⟩
 f18:=⟨Tryz.f190.name,by decide,Tryz.func190.trans (congrArg some (by kernel_rfl))⟩
 f19:=Tryz.func160.trans (congrArg some (by kernel_rfl))
 f20:=Tryz.func161.trans (congrArg some (by kernel_rfl))
 f30:=⟨Tryz.f210.name,by decide,Tryz.func210.trans (congrArg some (by kernel_rfl))⟩
 f31:=Tryz.func193.trans (congrArg some (by kernel_rfl))
 f32:=Tryz.func194.trans (congrArg some (by kernel_rfl))
 f33:=⟨Tryz.f211.name,by decide,Tryz.func211.trans (congrArg some (by kernel_rfl))⟩
 f34:=⟨Tryz.f212.name,by decide,Tryz.func212.trans (congrArg some (by kernel_rfl))⟩
 f35:=⟨Tryz.f213.name,by decide,Tryz.func213.trans (congrArg some (by kernel_rfl))⟩
 f40:=⟨Tryz.f220.name,by decide,Tryz.func220.trans (congrArg some (by kernel_rfl))⟩
 t0:=Tryz.underlying0
 a0:=Tryz.isAgg0
 z0:=Tryz.sizeOf0
 v0:=Tryz.zeroValue0
 t3:=Tryz.underlying3
 a3:=Tryz.isAgg3
 z3:=Tryz.sizeOf3
 v3:=Tryz.zeroValue3
 t4:=Tryz.underlying4
 a4:=Tryz.isAgg4
 z4:=Tryz.sizeOf4
 v4:=Tryz.zeroValue4
 t5:=Tryz.underlying5
 a5:=Tryz.isAgg5
 z5:=Tryz.sizeOf5
 v5:=Tryz.zeroValue5
 t9:=Tryz.underlying9
 a9:=Tryz.isAgg9
 z9:=Tryz.sizeOf9
 v9:=Tryz.zeroValue9
 t22:=Tryz.underlying40
 a22:=Tryz.isAgg40
 z22:=Tryz.sizeOf40
 v22:=Tryz.zeroValue40
 t23:=Tryz.underlying40
 a23:=Tryz.isAgg40
 z23:=Tryz.sizeOf40
 v23:=Tryz.zeroValue40
 t25:=Tryz.underlying3
 a25:=Tryz.isAgg3
 z25:=Tryz.sizeOf3
 v25:=Tryz.zeroValue3
 t32:=Tryz.underlying59
 a32:=Tryz.isAgg59
 z32:=Tryz.sizeOf59
 v32:=Tryz.zeroValue59
 t35:=Tryz.underlying218
 a35:=Tryz.isAgg218
 z35:=Tryz.sizeOf218
 v35:=Tryz.zeroValue218
 t36:=Tryz.underlying219
 a36:=Tryz.isAgg219
 z36:=Tryz.sizeOf219
 v36:=Tryz.zeroValue219
 t41:=Tryz.underlying224
 a41:=Tryz.isAgg224
 z41:=Tryz.sizeOf224
 v41:=Tryz.zeroValue224
 t44:=Tryz.underlying227
 a44:=Tryz.isAgg227
 z44:=Tryz.sizeOf227
 v44:=Tryz.zeroValue227
 t46:=Tryz.underlying73
 a46:=Tryz.isAgg73
 z46:=Tryz.sizeOf73
 v46:=Tryz.zeroValue73
 t53:=Tryz.underlying249
 a53:=Tryz.isAgg249
 z53:=Tryz.sizeOf249
 v53:=Tryz.zeroValue249
 t57:=Tryz.underlying253
 a57:=Tryz.isAgg253
 z57:=Tryz.sizeOf253
 v57:=Tryz.zeroValue253
 t63:=Tryz.underlying265
 a63:=Tryz.isAgg265
 z63:=Tryz.sizeOf265
 v63:=Tryz.zeroValue265
 t64:=Tryz.underlying266
 a64:=Tryz.isAgg266
 z64:=Tryz.sizeOf266
 v64:=Tryz.zeroValue266 }
end Go.Proofs
