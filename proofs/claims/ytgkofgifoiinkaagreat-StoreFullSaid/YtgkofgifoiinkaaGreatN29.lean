/- A tree over a device and pages; what calls answer of no tree, and of what may not be: the walks of New, and of Scan, Walk and Build as far as they look no further; no condition. -/
import Derived.Test.YtgkofgifoiinkaaGreatN28
import Derived.Test.YtgkofgifoiinkaaGreatN18
import Derived.Test.YtgkofgifoiinkaaGreatN20
import Derived.Test.YtgkofgifoiinkaaGreatN26
namespace Go.Proofs.YtgkofgifoiinkaaGreat
open Go.RowKit
def endE (fr:Nat) (D:Dv) (k:Wk) (c:Int):Int:=if c=0 then (writesP fr D (k.T.zip k.BL)).2 else c
def endD (fr:Nat) (D:Dv) (k:Wk) (c:Int):Dv:=if c=0 then (writesP fr D (k.T.zip k.BL)).1 else D
def endL (l:List Pg) (k:Wk) (c:Int):List Pg:=if c=0 then dropsP l k.X else dropsP l k.T
def Ends (w:World) (tb db pb fr:Nat) (D:Dv) (l:List Pg) (S:Nat→Prop) (c root:Int) (e:Ending) (w':World):Prop :=
 e = .returned (.tuple #[.int .i64 (if c=0 then root else 0),err c])∧∃ S',TrS w' tb db pb fr D l S'∧Step S w w' S'
section
variable {w:World} {tb db pb fr:Nat} {D:Dv} {l:List Pg} {wb:Nat} {top:Nd} {k:Wk} {S F G:Nat→Prop} {tev ttv tv bv xv:Value}
theorem Ro.rw {τ α:Type} {K:Kd τ α} {e:TypeId} {v:Value} {m:List α} (h:Ro K e w S v m):∃ ts:List τ,ts.map K.con=m∧Rw w v m.length K.sz (K.cells ts):=let ⟨ts,h1,h2,_⟩:=h; ⟨ts,h1,Rw.of_own h2⟩
theorem Ro.ints {v:Value} {xs:List Nat} (h:Ro kdIn 3 w S v (Go.Proofs.YtgkofgifoiinkaaGreat.ints xs)):Rw w v xs.length 1 (kdIn.cells (Go.Proofs.YtgkofgifoiinkaaGreat.ints xs)):=by
 obtain ⟨ts,h1,h2⟩:=h.rw
 rw [ints_length] at h2
 have:ts=Go.Proofs.YtgkofgifoiinkaaGreat.ints xs:=by rw [← h1]; exact (List.map_id _).symm
 rw [← this]
 exact h2
theorem end_tail {c root:Int} {w0:World} {S0:Nat→Prop} (h:StAt w tb db pb fr D l wb top k S F G tev ttv tv bv xv) (hst:Step S0 w0 w S) (hT:k.T.length≤4294967296) (hX:k.X.length≤4294967296) :
  (∃ _:True,Calls Tryz.prog 168 #[ptr wb, .slice none 0 0] w fun e w'=>e = .returned (.tuple #[])∧StAt w' tb db pb fr D l wb top k S F G tev ttv tv bv xv∧Step S0 w0 w' S):=by
 refine ⟨trivial,(tdrop_at (xs:=[]) h (Rw.nil w 1) (fun q hq=>by cases hq) (by simp)).mono ?_⟩
 rintro e w' ⟨rfl,h1,ho⟩
 exact ⟨rfl,h1,hst.trans ⟨ho.mono fun q _ hq=>h.tr.gs q hq,fun q hq=>.inl hq⟩⟩
set_option maxHeartbeats 1000000 in
theorem end_any' {c root:Int} {n:Nat} (h:St w tb db pb fr D l wb top k S) (hlen:k.BL.length=k.T.length) (h512:∀ b∈k.BL,b.length=512) (hT:∀ t∈k.T,t < 4096) (hfr:fr≤4096) (hu:Upto D n) (hn:n+k.T.length < 4294967296) (hX:k.X.length≤4294967296) :
  Calls Tryz.prog 134 #[ptr wb, .int .i64 root,err c] w (Ends w tb db pb fr (endD fr D k c) (endL l k (endE fr D k c)) S (endE fr D k c) root):=by
 obtain ⟨F,G,tev,ttv,tv,bv,xv,h⟩:=h
 have W:=write_at h hlen h512 hT hfr hu hn
 obtain ⟨ta,tc,htv,_⟩:=h.rt.shape
 rw [ints_length] at htv
 subst htv
 obtain ⟨xa,xc,hxv,_⟩:=h.rx.shape
 rw [ints_length] at hxv
 subst hxv
 generalize hE:endE fr D k c=E
 generalize hD:endD fr D k c=D'
 have HE:=Lib.hid (anZ hE hD)
 clear hE hD
 have tail:∀ (w1:World) (D1:Dv) (c1:Int) (S1 F1:Nat→Prop),StAt w1 tb db pb fr D1 l wb top k S1 F1 G tev ttv (.slice ta k.T.length tc) bv (.slice xa k.X.length xc)→Step S w w1 S1 →
   Calls Tryz.prog 168 #[ptr wb, .slice none 0 0] w1 fun e w'=>e = .returned (.tuple #[])∧StAt w' tb db pb fr D1 l wb top k S1 F1 G tev ttv (.slice ta k.T.length tc) bv (.slice xa k.X.length xc)∧Step S w w' S1:=fun w1 D1 c1 S1 F1 h1 hs =>
  (end_tail (c:=c1) (root:=root) h1 hs (by omega) hX).2
 have HT:=Lib.hid tail
 have hTl:k.T.length≤4294967296:=by omega
 have HH:=Lib.hid (anZ h (anZ hTl hX))
 clear h hlen h512 hT hu hn tail
 by_cases hc:c=0
 ·subst hc
  have e1:endE fr D k 0=(writesP fr D (k.T.zip k.BL)).2:=if_pos rfl
  have e2:endD fr D k 0=(writesP fr D (k.T.zip k.BL)).1:=if_pos rfl
  rw [e1,e2] at HE
  clear e1 e2
  generalize (writesP fr D (k.T.zip k.BL)).2=c2 at *
  generalize (writesP fr D (k.T.zip k.BL)).1=D2 at *
  obtain ⟨rfl,rfl⟩:=HE.out
  clear HE
  go_enter Tryz.func134,Tryz.ntmps134
  go_wp2_with fail
  refine W.mono ?_
  rintro e w1 ⟨rfl,S1,F1,h1,st1,hin⟩
  clear W
  have t0:w1.cell? ⟨wb,0,none⟩=some (ptr tb):=h1.cel.cell 0
  have t7:w1.cell? ⟨wb,7,none⟩=some (.slice none 0 0):=h1.cel.cell 7
  have T1:=HT.out w1 D2 c2 S1 F1 h1 st1
  clear h1 st1 hin
  go_wp2_with fail
  refine T1.mono ?_
  rintro e w2 ⟨rfl,h2,st2⟩
  clear T1 t0 t7
  by_cases hc2:c2=0
  ·subst hc2
   have t8:w2.cell? ⟨wb,8,none⟩=some (.slice xa k.X.length xc):=h2.cel.cell 8
   have T2:=tdrop_at h2 h2.rx.ints (fun q hq=>(h2.xf q hq).2.1) hX
   have H2:=Lib.hid (anZ h2 st2)
   clear h2 st2
   go_wp2_with fail
   refine T2.mono ?_
   rintro e w3 ⟨rfl,h3,ho3⟩
   clear T2
   have H3:=Lib.hid (anZ h3 ho3)
   clear h3 ho3
   go_wp2
   go_ret2
   refine ⟨rfl,S1,⟨F1,G,?_⟩,H2.out.2.trans ⟨H3.out.2.mono fun q _ hq=>H2.out.1.tr.gs q hq,fun q hq=>.inl hq⟩⟩
   unfold endL
   rw [if_pos rfl]
   exact H3.out.1.tr
  ·have hcb:(c2 == 0)=false:=by rw [beq_eq_false_iff_ne]; exact hc2
   have t5:w2.cell? ⟨wb,5,none⟩=some (.slice ta k.T.length tc):=h2.cel.cell 5
   have T2:=tdrop_at h2 h2.rt.ints (fun q hq=>(h2.tf q hq).2.1) hTl
   have H2:=Lib.hid (anZ h2 (anZ st2 hc2))
   clear h2 st2 hc2
   go_wp2_with fail
   refine T2.mono ?_
   rintro e w3 ⟨rfl,h3,ho3⟩
   clear T2
   have H3:=Lib.hid (anZ h3 ho3)
   clear h3 ho3
   go_wp2
   go_ret2
   refine ⟨by rw [if_neg H2.out.2.2]; rfl,S1,⟨F1,G,?_⟩,H2.out.2.1.trans ⟨H3.out.2.mono fun q _ hq=>H2.out.1.tr.gs q hq,fun q hq=>.inl hq⟩⟩
   unfold endL
   rw [if_neg H2.out.2.2]
   exact H3.out.1.tr
 ·have e1:endE fr D k c=c:=if_neg hc
  have e2:endD fr D k c=D:=if_neg hc
  rw [e1,e2] at HE
  obtain ⟨rfl,rfl⟩:=HE.out
  have hcb:(c == 0)=false:=by rw [beq_eq_false_iff_ne]; exact hc
  have h:=HH.out.1
  have t0:w.cell? ⟨wb,0,none⟩=some (ptr tb):=h.cel.cell 0
  have t7:w.cell? ⟨wb,7,none⟩=some (.slice none 0 0):=h.cel.cell 7
  have T1:=HT.out w D c S F h (Step.refl _ _)
  have HC:=Lib.hid hc
  clear h hc e1 e2 HE W
  go_enter Tryz.func134,Tryz.ntmps134
  go_wp2_with fail
  refine T1.mono ?_
  rintro e w2 ⟨rfl,h2,st2⟩
  clear T1 t0 t7
  have t5:w2.cell? ⟨wb,5,none⟩=some (.slice ta k.T.length tc):=h2.cel.cell 5
  have T2:=tdrop_at h2 h2.rt.ints (fun q hq=>(h2.tf q hq).2.1) hTl
  have H2:=Lib.hid (anZ h2 st2)
  clear h2 st2
  go_wp2_with fail
  refine T2.mono ?_
  rintro e w3 ⟨rfl,h3,ho3⟩
  clear T2
  have H3:=Lib.hid (anZ h3 ho3)
  clear h3 ho3
  go_wp2
  go_ret2
  refine ⟨by rw [if_neg HC.out]; rfl,S,⟨F,G,?_⟩,H2.out.2.trans ⟨H3.out.2.mono fun q _ hq=>H2.out.1.tr.gs q hq,fun q hq=>.inl hq⟩⟩
  unfold endL
  rw [if_neg HC.out]
  exact H3.out.1.tr
end
end Go.Proofs.YtgkofgifoiinkaaGreat
namespace Go.Proofs.YtgkofgifoiinkaaGreat
open Go.RowKit
section
variable {w w':World} {tb db pb fr:Nat} {D:Dv} {ps:List Pg} {S F G:Nat→Prop} {tev ttv:Value}
theorem StAt.begin {top:Nd} {wb:Nat} (h:TrAt w tb db pb fr D ps S F G) (hw:¬ S wb) (hb:Cel w wb [ptr tb, .int .i64 top.page, .int .i64 (top.lvl:Nat),tev,ttv, .slice none 0 0, .slice none 0 0, .slice none 0 0, .slice none 0 0] 201) (hne:wb≠tb)
  (he:Rd kdEn w (fun q=>S q∨q=wb) tev top.ents) (ht:Bsf w (fun q=>S q∨q=wb) ttv top.to):StAt w tb db pb fr D ps wb top ⟨[],[],[]⟩ (fun q=>S q∨q=wb) F G tev ttv (.slice none 0 0) (.slice none 0 0) (.slice none 0 0) :=
 {tr:=⟨h.tree,h.dev,h.pgs,h.fg,fun q hq=>.inl (h.fs q hq),fun q hq=>.inl (h.gs q hq),fun q hq=>hq.elim (h.lt q) (fun e=>e ▸ hb.lt),fun hq=>hq.elim h.out (fun e=>hne e.symm),h.room⟩
  cel:=hb,te:=he,tt:=ht,rt:=Ro.nil _ _ _ _,rb:=Ro.nil _ _ _ _,rx:=Ro.nil _ _ _ _,ws:=.inr rfl,wf:=⟨fun hq=>hw (h.fs _ hq),fun hq=>hw (h.gs _ hq)⟩
  tf:=(fun q hq=>by cases hq),bf:=(fun q hq=>by cases hq),xf:=(fun q hq=>by cases hq),tx:=(fun q hq=>by cases hq),tbn:=(fun q hq=>by cases hq),bx:=(fun q hq=>by cases hq) }
end
theorem Sub.size {B:Nat→Bytes} {N:Nat}:∀ {l:Nat} {k:Sb},Sub B N l k→2 ^ (l+1)≤k.pgs.length+1
 | 0,k,h=>by
  obtain ⟨ces,cpg,g1,g2,g3,g4,g5,g6⟩:=h
  rw [g4,List.length_cons]
  omega
 | l+1,k,h=>by
  obtain ⟨ces,cpg,g1,g2,g3,g4,g5,g6⟩:=h
  obtain ⟨kids,h1,h2,h3,h4⟩:=Nb.succ.1 g3
  have hl:=g1.2 (by omega)
  rw [h1,List.length_map] at hl
  obtain ⟨a,b,r,rfl⟩:∃ a b r,kids=a::b::r:=by
   rcases kids with _ | ⟨a,_ | ⟨b,r⟩⟩
   ·simp at hl
   ·simp at hl
   ·exact ⟨a,b,r,rfl⟩
  have ha:=Sub.size (h4 a (by simp))
  have hb:=Sub.size (h4 b (by simp))
  rw [g4,h3,List.length_cons,List.flatMap_cons,List.flatMap_cons,List.length_append,List.length_append,Nat.pow_succ]
  omega
theorem endE_zero (fr:Nat) (D:Dv) (T:List Nat) (BL:List Bytes) (X:List Nat):endE fr D ⟨T,BL,X⟩ 0=(writesP fr D (T.zip BL)).2∧endD fr D ⟨T,BL,X⟩ 0=(writesP fr D (T.zip BL)).1:=by
 unfold endE endD
 exact ⟨if_pos rfl,if_pos rfl⟩
end Go.Proofs.YtgkofgifoiinkaaGreat
namespace Go.Proofs.YtgkofgifoiinkaaGreat
open Go.RowKit
section
variable {D:Dv} {fr:Nat} {ps:List Pg} {root root':Int} {prs prs':List Pr} {pgs pgs':List Nat}
theorem wcode_zero {k:Int} {b:Bytes} (h:wcode D k b=0):D.on=true∧¬ noSuch D k b∧D.left≠0:=by
 unfold wcode at h
 split at h
 ·omega
 ·rename_i h1
  split at h
  ·omega
  ·rename_i h2
   split at h
   ·omega
   ·rename_i h3
    exact ⟨by simpa using h1,h2,h3⟩
theorem wdev_zero {k:Nat} {b:Bytes} (h:wcode D (k:Int) b=0):wdev D (k:Int) b=⟨wrote D.bk k b,D.on,spent D.left⟩:=by
 obtain ⟨h1,h2,h3⟩:=wcode_zero h
 unfold wdev
 rw [if_neg (by simp [h1]),if_neg h2,if_neg h3,Int.toNat_natCast]
theorem blk_wrote (t:Nat) (b:Bytes) (ht:fr+t < D.bk.length) (on:Bool) (left:Int):blkOf ⟨wrote D.bk (fr+t) b,on,left⟩ fr=fun q=>if q=t then b else blkOf D fr q:=by
 funext q
 unfold blkOf
 simp only [wrote_get]
 by_cases e:q=t
 ·subst e
  obtain ⟨x,hx⟩:∃ x,D.bk[fr+q]? = some x:=⟨_,List.getElem?_eq_getElem ht⟩
  simp [hx,Bk.stands]
 ·rw [if_neg (by omega),if_neg e]
theorem blk_writes:∀ {D:Dv} (l:List (Nat × Bytes)),(writesP fr D l).2=0→blkOf (writesP fr D l).1 fr=ovr (blkOf D fr) l∧(l≠[]→D.on=true)∧((writesP fr D l).1.on=D.on)
 | D,[],_=>⟨rfl,fun h=>absurd rfl h,rfl⟩
 | D,(t,b)::r,h=>by
  unfold writesP at h ⊢
  split at h
  ·rename_i h0
   rw [if_pos h0]
   obtain ⟨h1,h2,h3⟩:=wcode_zero h0
   have hw:=wdev_zero h0
   obtain ⟨i1,i2,i3⟩:=blk_writes r h
   have hlt:fr+t < D.bk.length:=by
    unfold noSuch at h2
    omega
   refine ⟨?_,fun _=>h1,i3.trans ?_⟩
   ·rw [i1,hw,blk_wrote t b hlt]
    rfl
   ·rw [hw]
  ·rename_i h0
   exact absurd h h0
theorem rdone_get (l:List Pg) (k q:Nat):(rdone l (k:Int))[q]? = if q=k then (l[q]?).map (fun x=>(x.1,false)) else l[q]?:=by
 unfold rdone
 rw [pgAt_nat]
 rcases hk:l[k]? with _ | x
 ·simp only
  by_cases e:q=k
  ·subst e
   rw [if_pos rfl,hk]
   rfl
  ·rw [if_neg e]
 ·have hl:=(List.getElem?_eq_some_iff.1 hk).1
  simp only [Int.toNat_natCast]
  by_cases e:q=k
  ·subst e
   rw [if_pos rfl,hk]
   split
   ·rw [List.getElem?_set_self hl]
    rfl
   ·rename_i h
    rw [hk]
    obtain ⟨a,b⟩:=x
    have:b=false:=by simpa using h
    subst this
    rfl
  ·rw [if_neg e]
   split
   ·rw [List.getElem?_set_ne (fun h=>e h.symm)]
   ·rfl
theorem dropsP_get (xs:List Nat):∀ (l:List Pg) (q:Nat),(dropsP l xs)[q]? = if q∈xs then (l[q]?).map (fun x=>(x.1,false)) else l[q]?:=by
 induction xs with
 | nil=>intro l q; simp [dropsP]
 | cons a r ih =>
  intro l q
  show (dropsP (rdone l (a:Int)) r)[q]? = _
  rw [ih,rdone_get]
  by_cases e:q=a
  ·subst e
   rw [if_pos rfl,if_pos List.mem_cons_self]
   split
   ·rw [Option.map_map]
    rfl
   ·rfl
  ·rw [if_neg e]
   by_cases hm:q∈r
   ·rw [if_pos hm,if_pos (List.mem_cons_of_mem _ hm)]
   ·rw [if_neg hm,if_neg (by simp [e,hm])]
structure Hold (D:Dv) (fr:Nat) (ps:List Pg) (root:Int) (prs:List Pr) (pgs:List Nat):Prop where
 rt:Rt (blkOf D fr) ps.length root prs pgs
 held:∀ k x,ps[k]? = some x→(x.2=true↔k∈pgs)
 nd:pgs.Nodup
theorem Hold.free (h:Hold D fr ps root prs pgs):∀ q,ps[q]? = some (false,false)→q ∉ pgs:=fun q hq hm=>by
 have:=(h.held q _ hq).2 hm
 cases this
theorem Rt.lt {B:Nat→Bytes} {N:Nat} (h:Rt B N root prs pgs):(∀ q∈pgs,q < N)∧rootB N root=true:=by
 rcases h.at_ with ⟨rfl,_,rfl⟩ | ⟨l,k,hs,rfl,_,rfl,_⟩
 ·refine ⟨fun q hq=>(by cases hq),?_⟩
  unfold rootB
  simp
  omega
 ·obtain ⟨ces,cpg,g1,g2,g3,g4,g5,g6⟩:=hs
  refine ⟨fun q hq=>?_,?_⟩
  ·rw [g4] at hq
   rcases List.mem_cons.1 hq with rfl | h1
   ·exact g6
   ·exact g3.pages_lt q h1
  ·unfold rootB
   simp
   omega
theorem Hold.done (h:Hold D fr ps root prs pgs) {i:Nat} {BL:List Bytes} {Xs:List Nat} (hf:∀ j,j < i→leastFree (tdones j ps)≠none) (hw:(writesP fr D ((placeT ps i).zip BL)).2=0)
  (hr:Rt (ovr (blkOf D fr) ((placeT ps i).zip BL)) ps.length root' prs' pgs') (hp:(pgs++placeT ps i).Perm (Xs++pgs')):Hold (writesP fr D ((placeT ps i).zip BL)).1 fr (dropsP (tdones i ps) Xs) root' prs' pgs':=by
 obtain ⟨hnd,hfr⟩:=placeT_free hf
 have hn0:(pgs++placeT ps i).Nodup:=List.nodup_append.2 ⟨h.nd,hnd,fun a ha b hb e=>h.free a (hfr a (e ▸ hb)) ha⟩
 have hn1:=(List.Perm.nodup_iff hp).1 hn0
 obtain ⟨_,hn2,hdis⟩:=List.nodup_append.1 hn1
 refine ⟨?_,fun k x hx=>?_,hn2⟩
 ·rw [(blk_writes _ hw).1,dropsP_length,tdones_length]
  exact hr
 ·have hmem:=hp.mem_iff (a:=k)
  simp only [List.mem_append] at hmem
  rw [dropsP_get,tdones_get ps i hf] at hx
  by_cases hX:k∈Xs
  ·rw [if_pos hX] at hx
   obtain ⟨y,_,rfl⟩:=Option.map_eq_some_iff.1 hx
   exact ⟨(fun h=>by cases h),fun hk=>absurd rfl (hdis k hX k hk)⟩
  ·rw [if_neg hX] at hx
   by_cases hT:k∈placeT ps i
   ·rw [if_pos hT] at hx
    cases hx
    exact ⟨fun _=>(hmem.1 (.inr hT)).resolve_left hX,fun _=>rfl⟩
   ·rw [if_neg hT] at hx
    rw [h.held k x hx]
    exact ⟨fun hk=>(hmem.1 (.inl hk)).resolve_left hX,fun hk=>(hmem.2 (.inr hk)).resolve_right hT⟩
end
end Go.Proofs.YtgkofgifoiinkaaGreat
namespace Go.Proofs.YtgkofgifoiinkaaGreat
open Go.RowKit
def Still (bk:List Bk) (i:Nat) (x:Bytes):Prop:=bk[i]? = some ⟨x,[]⟩
structure Apart (K:Nat→Prop) (l l':List Bk):Prop where
 len:l'.length=l.length
 still:∀ i x,¬ K i→Still l i x→Still l' i x
section
variable {K K':Nat→Prop} {a b c:List Bk}
theorem Apart.refl (K:Nat→Prop) (l:List Bk):Apart K l l:=⟨rfl,fun _ _ _ h=>h⟩
theorem Apart.trans (h:Apart K a b) (k:Apart K b c):Apart K a c:=⟨k.len.trans h.len,fun i x hi hx=>k.still i x hi (h.still i x hi hx)⟩
theorem Apart.mono (h:Apart K a b) (hk:∀ i,K i→K' i):Apart K' a b:=⟨h.len,fun i x hi hx=>h.still i x (fun hi'=>hi (hk i hi')) hx⟩
theorem apart_wrote (l:List Bk) (k:Nat) (x:Bytes):Apart (· = k) l (wrote l k x):=⟨wrote_length _ _ _,fun i y hi hy=>by
 unfold Still at *
 rw [wrote_get,if_neg hi]
 exact hy⟩
theorem apart_flushed (l:List Bk):Apart K l (flushed l):=⟨flushed_length _,fun i y _ hy=>by
 unfold Still at *
 rw [flushed_at hy]
 rfl⟩
theorem apart_comes (l:List Bk) (ps:List Int):Apart K l (comes l ps):=⟨comes_length _ _,fun i y _ hy=>by
 unfold Still at *
 rw [comes_at l ps i _ hy]
 rfl⟩
theorem apart_wdev (D:Dv) (k:Nat) (x:Bytes):Apart (· = k) D.bk (wdev D (k:Int) x).bk:=by
 unfold wdev
 split
 ·exact Apart.refl _ _
 split
 ·exact Apart.refl _ _
 split
 ·exact Apart.refl _ _
 ·rw [Int.toNat_natCast]
  exact apart_wrote _ _ _
theorem apart_fdev (D:Dv):Apart K D.bk (fdev D).bk:=by
 unfold fdev
 split
 ·exact Apart.refl _ _
 split
 ·exact Apart.refl _ _
 ·exact apart_flushed _
end
def Ring (J:Jn) (i:Nat):Prop:=J.fr≤i∧i < J.fr+J.size
theorem apart_puts {J:Jn} (ha:J.at_ < J.size):∀ (x:List Bytes) (D:Dv) (t:Spot),t.1+x.length≤J.size→Apart (Ring J) D.bk (putsD J D t x).1.bk
 | [],D,t,_=>Apart.refl _ _
 | b::x,D,t,ht=>by
  simp only [List.length_cons] at ht
  have h1:Apart (Ring J) D.bk (putD J D t 1 b).bk:=(apart_wdev D (J.place t) _).mono fun i e=>e ▸ place_in ha (t:=t) (by omega)
  rw [putsD]
  split
  ·exact h1.trans (apart_puts ha x _ _ (by simp only [behindS]; omega))
  ·exact h1
theorem apart_close {J:Jn} (ha:J.at_ < J.size) (D:Dv) (t:Spot) (ht:t.1 < J.size):Apart (Ring J) D.bk (closeD J D t).1.bk:=by
 have h1:Apart (Ring J) (fdev D).bk (putD J (fdev D) t 2 []).bk:=(apart_wdev (fdev D) (J.place t) _).mono fun i e=>e ▸ place_in ha ht
 have h0:Apart (Ring J) D.bk (fdev D).bk:=apart_fdev D
 unfold closeD
 split
 ·exact h0
 split
 ·exact h0.trans h1
 split
 ·exact (h0.trans h1).trans (apart_fdev _)
 ·exact (h0.trans h1).trans (apart_fdev _)
theorem apart_write {J:Jn} {D:Dv} {l:Bytes} (ho:D.on=true) (hf:J.fr+J.size≤D.bk.length) (ha:J.at_ < J.size) (ht:J.ahead+nBlocks l.length≤J.size):Apart (Ring J) D.bk (writeD J D l).1.bk:=by
 unfold nBlocks at ht
 obtain ⟨_,_,h3⟩:=went_puts (J:=J) (piecesL l) D J.spot ho hf ha (by rw [piecesL_length]; simp only; omega) (piecesL_short l)
 have h1:=apart_puts ha (piecesL l) D J.spot (by rw [piecesL_length]; simp only; omega)
 unfold writeD
 split
 ·exact h1
 ·rename_i hc
  have hsp:(putsD J D J.spot (piecesL l)).2.1.1=J.ahead+nPieces l.length:=by rw [h3 (by simpa using hc),encP_spot,piecesL_length]
  exact h1.trans (apart_close ha _ _ (by rw [hsp]; omega))
theorem apart_writes (fr:Nat):∀ (D:Dv) (l:List (Nat × Bytes)),Apart (fun i=>∃ p∈l,i=fr+p.1) D.bk (writesP fr D l).1.bk
 | D,[]=>Apart.refl _ _
 | D,(k,b)::r=>by
  have h1:Apart (fun i=>∃ p∈(k,b)::r,i=fr+p.1) D.bk (wdev D ((fr+k:Nat):Int) b).bk:=(apart_wdev D (fr+k) b).mono fun i e=>⟨(k,b),List.mem_cons_self,e⟩
  unfold writesP
  split
  ·exact h1.trans ((apart_writes fr _ r).mono fun i ⟨p,hp,e⟩=>⟨p,List.mem_cons_of_mem _ hp,e⟩)
  ·exact h1
theorem Holds.same {fr size a s:Nat} {bk bk':List Bk} {L:List Bytes} (h:Holds fr size a s bk L) (hl:bk'.length=bk.length) (he:∀ i,i < size→bk'[fr+i]? = bk[fr+i]?):Holds fr size a s bk' L where
 fits:=by rw [hl]; exact h.fits
 two:=h.two
 atl:=h.atl
 num:=h.num
 room:=h.room
 held p b hb:=by
  have hp:p < takenBy L:=by rw [← encA_length]; exact (List.getElem?_eq_some_iff.1 hb).1
  have hr:=h.room
  rw [he _ (ringAt_lt h.atl (by omega))]
  exact h.held p b hb
 rest p x hp hps hx:=by
  rw [he _ (ringAt_lt h.atl hps)] at hx
  exact h.rest p x hp hps hx
 old i x hi hx:=by
  rw [he _ hi] at hx
  exact h.old i x hi hx
theorem Clean.still {bk:List Bk} (h:Clean bk) {i:Nat} (hi:i < bk.length):∃ x,Still bk i x:=by
 have:=h i _ (List.getElem?_eq_getElem hi)
 refine ⟨bk[i].sure,?_⟩
 unfold Still
 rw [List.getElem?_eq_getElem hi]
 cases hb:bk[i]
 rw [hb] at this
 simp only at this
 subst this
 rfl
theorem Apart.eq {K:Nat→Prop} {a b:List Bk} (h:Apart K a b) (hc:Clean a) {i:Nat} (hi:¬ K i):b[i]? = a[i]?:=by
 rcases Nat.lt_or_ge i a.length with hl | hl
 ·obtain ⟨x,hx⟩:=hc.still hl
  rw [show a[i]? = _ from hx]
  exact h.still i x hi hx
 ·rw [List.getElem?_eq_none hl,List.getElem?_eq_none (by rw [h.len]; exact hl)]
theorem blkOf_eq {D D':Dv} {fr k:Nat} (h:D'.bk[fr+k]? = D.bk[fr+k]?):blkOf D' fr k=blkOf D fr k:=by
 unfold blkOf
 rw [h]
def leL (n k:Nat):Bytes:=(List.range k).map fun j=>UInt8.ofNat (n / 2 ^ (8*j))
theorem leL_length (n k:Nat):(leL n k).length=k:=by simp [leL]
theorem leL_succ (n k:Nat):leL n (k+1)=leL n k++[UInt8.ofNat (n / 2 ^ (8*k))]:=by
 unfold leL
 rw [List.range_succ,List.map_append]
 rfl
theorem leL_at {n k j:Nat} (h:j < k):(leL n k)[j]? = some (UInt8.ofNat (n / 2 ^ (8*j))):=by
 unfold leL
 rw [List.getElem?_map,List.getElem?_range h]
 rfl
def u64N (z:Int):Nat:=(z % 18446744073709551616).toNat
def signL:Bytes:=[115,116,111,114,101]
def bodyR (pg:Int) (a s:Nat):Bytes:=signL++(leL (u64N pg) 8++(leL a 8++leL s 8))
theorem bodyR_length (pg:Int) (a s:Nat):(bodyR pg a s).length=29:=by simp [bodyR,leL_length,signL]
structure Disk (bk:List Bk) (g:Nat) (pg:Int) (a s:Nat) (P0:List Pr) (pgs:List Nat) (C:List (List Wr)) (P:List Pr):Prop where
 clean:Clean bk
 len:442≤bk.length
 most:bk.length≤4096
 root:∃ b0 b1,Still bk 0 b0∧Still bk 1 b1∧Last2 b0 b1 g (bodyR pg a s)
 ring:Holds 2 360 a s bk (C.map recL)
 tree:Rt (blkOf ⟨bk,true, -1⟩ 362) (bk.length-362) pg P0 pgs
 nd:pgs.Nodup
 few:pgs.length≤halfN bk.length
 coms:∀ l∈C,ComOk l∧l.length≤1000
 now:P=C.foldl doneC P0
 ok0:okUp P0
 fits0:bytesP P0≤roomN bk.length
 fits:bytesP P≤roomN bk.length
 gens:g≤4000000
 seqs:1≤s∧s+C.length≤4000000
def OnDisk (bk:List Bk) (P:List Pr) (m:Nat):Prop:=∃ g pg a s P0 pgs C,Disk bk g pg a s P0 pgs C P∧g≤m∧s+C.length≤m
section
variable {bk bk':List Bk} {g a s:Nat} {pg:Int} {P0 P:List Pr} {pgs:List Nat} {C:List (List Wr)}
theorem okUp_fold:∀ (C:List (List Wr)) {P:List Pr},okUp P→(∀ l∈C,ComOk l∧l.length≤1000)→okUp (C.foldl doneC P)
 | [],_,h,_=>h
 | l::r,P,h,hc=>okUp_fold r (P:=doneC P l) (ok_doneC l h (hc l List.mem_cons_self).1.1) fun x hx=>hc x (List.mem_cons_of_mem _ hx)
theorem Disk.ok (h:Disk bk g pg a s P0 pgs C P):okUp P:=by
 rw [h.now]
 exact okUp_fold C h.ok0 h.coms
theorem Disk.half (h:Disk bk g pg a s P0 pgs C P):40≤halfN bk.length:=by
 have:=h.len
 unfold halfN
 omega
theorem Disk.move {K:Nat→Prop} (h:Disk bk g pg a s P0 pgs C P) (hA:Apart K bk bk') (hc:Clean bk') (h0:¬ K 0) (h1:¬ K 1) (hr:∀ i,i < 360→¬ K (2+i)) (ht:∀ q∈pgs,¬ K (362+q)):Disk bk' g pg a s P0 pgs C P where
 clean:=hc
 len:=by rw [hA.len]; exact h.len
 most:=by rw [hA.len]; exact h.most
 root:=by
  obtain ⟨b0,b1,k0,k1,k2⟩:=h.root
  exact ⟨b0,b1,hA.still 0 b0 h0 k0,hA.still 1 b1 h1 k1,k2⟩
 ring:=h.ring.same hA.len fun i hi=>hA.eq h.clean (hr i hi)
 tree:=by
  rw [hA.len]
  exact h.tree.congr fun q hq=>blkOf_eq (D:=⟨bk,true, -1⟩) (D':=⟨bk',true, -1⟩) (hA.eq h.clean (ht q hq))
 nd:=h.nd
 few:=by rw [hA.len]; exact h.few
 coms:=h.coms
 now:=h.now
 ok0:=h.ok0
 fits0:=by rw [hA.len]; exact h.fits0
 fits:=by rw [hA.len]; exact h.fits
 gens:=h.gens
 seqs:=h.seqs
theorem Disk.rung {J:Jn} {C':List (List Wr)} {P':List Pr} (h:Disk bk g pg a s P0 pgs C P) (hA:Apart (Ring J) bk bk') (hj:J.fr=2∧J.size=360) (hc:Clean bk') (hr:Holds 2 360 a s bk' (C'.map recL)) (hcm:∀ l∈C',ComOk l∧l.length≤1000)
  (hn:P'=C'.foldl doneC P0) (hf:bytesP P'≤roomN bk.length) (hs:s+C'.length≤4000000):Disk bk' g pg a s P0 pgs C' P' where
 clean:=hc
 len:=by rw [hA.len]; exact h.len
 most:=by rw [hA.len]; exact h.most
 root:=by
  obtain ⟨b0,b1,k0,k1,k2⟩:=h.root
  exact ⟨b0,b1,hA.still 0 b0 (fun hk=>by have:=hk.1; omega) k0,hA.still 1 b1 (fun hk=>by have:=hk.1; omega) k1,k2⟩
 ring:=hr
 tree:=by
  rw [hA.len]
  exact h.tree.congr fun q hq=>blkOf_eq (D:=⟨bk,true, -1⟩) (D':=⟨bk',true, -1⟩) (hA.eq h.clean fun hk=>by have:=hk.2; omega)
 nd:=h.nd
 few:=by rw [hA.len]; exact h.few
 coms:=hcm
 now:=hn
 ok0:=h.ok0
 fits0:=by rw [hA.len]; exact h.fits0
 fits:=by rw [hA.len]; exact hf
 gens:=h.gens
 seqs:=⟨h.seqs.1,hs⟩
end
end Go.Proofs.YtgkofgifoiinkaaGreat
namespace Go.Proofs.YtgkofgifoiinkaaGreat
open Go.RowKit
section
variable {D D':Dv} {bk bk':List Bk} {g a s n m:Nat} {pg:Int} {P0 P:List Pr} {pgs:List Nat} {C:List (List Wr)} {J:Jn} {L:List Bytes}
theorem takenBy_recs:∀ (C:List (List Wr)),C.length≤takenBy (C.map recL)
 | []=>Nat.zero_le _
 | l::r=>by
  have:=takenBy_recs r
  have e:takenBy ((l::r).map recL)=nBlocks (recL l).length+takenBy (r.map recL):=by simp [takenBy]
  rw [e,List.length_cons]
  unfold nBlocks
  omega
theorem recL_blocks {l:List Wr} (h:∀ x∈l,WrOk x) (hl:l.length≤1000):(recL l).length≤162000∧nBlocks (recL l).length≤339:=by
 have:=recL_length h
 refine ⟨by omega,?_⟩
 unfold nBlocks nPieces
 omega
theorem PS.move {K:Nat→Prop} (p:PS J D L n) (hA:Apart K D.bk D'.bk) (hK:∀ i,i < J.size→¬ K (J.fr+i)) (hc:Clean D'.bk) (ho:D'.on=true) (hu:Upto D' m):PS J D' L m where
 fit:=p.fit
 upto:=hu
 on:=ho
 live:=p.live
 clean:=hc
 holds:=p.holds.same hA.len fun i hi=>hA.eq p.clean (hK i hi)
 spot:=p.spot
 held:=p.held
 short:=p.short
def StJ (J:Jn) (a s:Nat):Prop:=J.fr=2∧J.size=360∧J.at_=a∧J.seq=s
structure Gone2 (D:Dv) (P P':List Pr) (n m:Nat):Prop where
 off:D.on=false
 upto:Upto D n
 len:442≤D.bk.length∧D.bk.length≤4096
 keeps:∀ ps,OnDisk (comes D.bk ps) P m∨OnDisk (comes D.bk ps) P' m
theorem Gone2.left (h:Gone2 D P P n m) (P':List Pr):Gone2 D P P' n m:=⟨h.off,h.upto,h.len,fun ps=>.inl ((h.keeps ps).elim id id)⟩
theorem Gone2.more {P':List Pr} (h:Gone2 D P P' n m) {n' m':Nat} (hn:n≤n') (hm:m≤m'):Gone2 D P P' n' m':=⟨h.off,h.upto.more hn,h.len,fun ps=>(h.keeps ps).imp (fun ⟨g,pg,a,s,P0,pgs,C,h1,h2,h3⟩=>⟨g,pg,a,s,P0,pgs,C,h1,by omega,by omega⟩) (fun ⟨g,pg,a,s,P0,pgs,C,h1,h2,h3⟩=>⟨g,pg,a,s,P0,pgs,C,h1,by omega,by omega⟩)⟩
theorem disk_append (h:Disk D.bk g pg a s P0 pgs C P) (p:PS J D (C.map recL) n) (hj:StJ J a s) {l:List Wr} (hl:ComOk l∧l.length≤1000) (hr:takenBy (C.map recL)+nBlocks (recL l).length≤360)
  (hb:bytesP (doneC P l)≤roomN D.bk.length) (hm:s+C.length+1≤4000000) :
  ((writeD J D (recL l)).2.2=0∧Disk (writeD J D (recL l)).1.bk g pg a s P0 pgs (C++[l]) (doneC P l)∧PS (appJ J D (recL l)) (writeD J D (recL l)).1 ((C++[l]).map recL) (n+nPieces (recL l).length+3)∧StJ (appJ J D (recL l)) a s∧(D.left < 0→(writeD J D (recL l)).1.left < 0)) ∨
  ((writeD J D (recL l)).2.2=8∧¬ D.left < 0∧Gone2 (writeD J D (recL l)).1 P (doneC P l) (n+nPieces (recL l).length+3) (max g (s+C.length+1))):=by
 obtain ⟨j1,j2,j3,j4⟩:=hj
 have hrl:=recL_blocks hl.1.1 hl.2
 have hah:J.ahead=takenBy (C.map recL):=p.ahead
 have hf:J.fr+J.size≤D.bk.length:=by have:=h.len; omega
 have hat:J.at_ < J.size:=by have:=p.holds.atl; omega
 have hA:=apart_write (l:=recL l) p.on hf hat (by omega)
 have hcm:∀ x∈C++[l],ComOk x∧x.length≤1000:=fun x hx=>by
  rcases List.mem_append.1 hx with hx | hx
  ·exact h.coms x hx
  ·rw [List.mem_singleton.1 hx]; exact hl
 have hnow:doneC P l=(C++[l]).foldl doneC P0:=by rw [List.foldl_append, ← h.now]; rfl
 have hmap:(C++[l]).map recL=C.map recL++[recL l]:=by simp
 have hseq:s+(C++[l]).length≤4000000:=by rw [List.length_append]; simp; omega
 obtain ⟨w1,_,_⟩:=went_writeD (J:=J) p.on hf hat (l:=recL l) (by omega)
 by_cases hc:(writeD J D (recL l)).2.2=0
 ·left
  have hp:=p.append (l:=recL l) (by omega) (by omega) (by have:=p.held; rw [List.length_map] at this; omega) hc
  refine ⟨hc,h.rung hA ⟨j1,j2⟩ hp.clean ?_ hcm hnow hb hseq,?_,?_,fun hlf=>(w1.free hlf).2⟩
  ·rw [hmap]
   have e:appJ J D (recL l)=J.more (writeD J D (recL l)).2.1:=by unfold appJ; rw [if_pos hc]
   have h1:=hp.holds
   rw [e] at h1
   have h2:Holds J.fr J.size J.at_ J.seq (writeD J D (recL l)).1.bk (C.map recL++[recL l]):=h1
   rw [j1,j2,j3,j4] at h2
   exact h2
  ·rw [hmap]
   exact hp
  ·have e:appJ J D (recL l)=J.more (writeD J D (recL l)).2.1:=by unfold appJ; rw [if_pos hc]
   rw [e]
   exact ⟨j1,j2,j3,j4⟩
 ·right
  obtain ⟨e1,e2,_,e3⟩:=p.lost (l:=recL l) (by omega) hc
  refine ⟨e1,e2,e3.off,e3.upto,?_,fun ps=>?_⟩
  ·rw [hA.len]
   exact ⟨h.len,h.most⟩
  ·have hA2:=hA.trans (apart_comes (K:=Ring J) (writeD J D (recL l)).1.bk ps)
   rcases e3.keeps ps with hk | hk
   ·left
    rw [j1,j2,j3,j4] at hk
    exact ⟨g,pg,a,s,P0,pgs,C,h.rung hA2 ⟨j1,j2⟩ (clean_comes _ _) hk h.coms h.now h.fits h.seqs.2,by omega,by omega⟩
   ·right
    rw [j1,j2,j3,j4, ← hmap] at hk
    exact ⟨g,pg,a,s,P0,pgs,C++[l],h.rung hA2 ⟨j1,j2⟩ (clean_comes _ _) hk hcm hnow hb hseq,by omega,by rw [List.length_append]; simp; omega⟩
def Spare (pgs:List Nat) (i:Nat):Prop:=∃ q,i=362+q∧q ∉ pgs
theorem spare_not {pgs:List Nat}:(¬ Spare pgs 0∧¬ Spare pgs 1)∧(∀ i,i < 360→¬ Spare pgs (2+i))∧∀ q∈pgs,¬ Spare pgs (362+q) :=
 ⟨⟨fun ⟨q,h,_⟩=>by omega,fun ⟨q,h,_⟩=>by omega⟩,fun i hi ⟨q,h,_⟩=>by omega,fun q hq ⟨q',h,hn⟩=>by
  obtain rfl:q'=q:=by omega
  exact hn hq⟩
theorem Disk.spare (h:Disk bk g pg a s P0 pgs C P) (hA:Apart (Spare pgs) bk bk') (hc:Clean bk'):Disk bk' g pg a s P0 pgs C P :=
 h.move hA hc spare_not.1.1 spare_not.1.2 spare_not.2.1 spare_not.2.2
theorem Disk.lost (h:Disk bk g pg a s P0 pgs C P) (hA:Apart (Spare pgs) bk D.bk) (ho:D.on=false) (hu:Upto D n):Gone2 D P P n (max g (s+C.length)) :=
 ⟨ho,hu,by rw [hA.len]; exact ⟨h.len,h.most⟩,fun ps=>.inl ⟨g,pg,a,s,P0,pgs,C,h.spare (hA.trans (apart_comes _ ps)) (clean_comes _ _),by omega,by omega⟩⟩
theorem stands_flushed {bk:List Bk} {on:Bool} {left:Int} {on':Bool} {left':Int} (fr k:Nat):blkOf ⟨flushed bk,on,left⟩ fr k=blkOf ⟨bk,on',left'⟩ fr k:=by
 unfold blkOf
 simp only [flushed,List.getElem?_map,Option.map_map]
 rfl
theorem disk_save (h:Disk D.bk g pg a s P0 pgs C P) (ho:D.on=true) (hu:Upto D n) {pg':Int} {pgs':List Nat} (ht:Rt (blkOf D 362) (D.bk.length-362) pg' P pgs') (hnd:pgs'.Nodup) (hfew:pgs'.length≤halfN D.bk.length) (hg:g+1≤4000000) :
  (sCode D (g+1) (bodyR pg' (ringAt a 360 (takenBy (C.map recL))) (s+C.length))=0∧(sDev D (g+1) (bodyR pg' (ringAt a 360 (takenBy (C.map recL))) (s+C.length))).on=true∧(D.left < 0→(sDev D (g+1) (bodyR pg' (ringAt a 360 (takenBy (C.map recL))) (s+C.length))).left < 0) ∧
   Apart (fun i=>i < 2) D.bk (sDev D (g+1) (bodyR pg' (ringAt a 360 (takenBy (C.map recL))) (s+C.length))).bk∧Upto (sDev D (g+1) (bodyR pg' (ringAt a 360 (takenBy (C.map recL))) (s+C.length))) (n+2) ∧
   Disk (sDev D (g+1) (bodyR pg' (ringAt a 360 (takenBy (C.map recL))) (s+C.length))).bk (g+1) pg' (ringAt a 360 (takenBy (C.map recL))) (s+C.length) P pgs' [] P) ∨
  (sCode D (g+1) (bodyR pg' (ringAt a 360 (takenBy (C.map recL))) (s+C.length))=8∧¬ D.left < 0∧Gone2 (sDev D (g+1) (bodyR pg' (ringAt a 360 (takenBy (C.map recL))) (s+C.length))) P P (n+2) (max (g+1) (s+C.length))):=by
 have hbl:=bodyR_length pg' (ringAt a 360 (takenBy (C.map recL))) (s+C.length)
 generalize hB:bodyR pg' (ringAt a 360 (takenBy (C.map recL))) (s+C.length)=B at *
 have hgb:genB (g+1)=true:=genB_iff.2 ⟨by omega,by omega⟩
 have h2:2≤D.bk.length:=by have:=h.len; omega
 have h480:B.length≤480:=by omega
 obtain ⟨b0,b1,k0,k1,k2⟩:=h.root
 have hnx:=k2.next hgb h480
 rcases hD:D with ⟨bk,on,left⟩
 subst hD
 simp only at ho
 subst ho
 have hdone:∀ bk':List Bk,Apart (fun i=>i < 2) bk bk'→Clean bk'→Still bk' 0 (if (g+1) % 2=0 then sealG (g+1) B else b0)→Still bk' 1 (if (g+1) % 2=0 then b1 else sealG (g+1) B)→Disk bk' (g+1) pg' (ringAt a 360 (takenBy (C.map recL))) (s+C.length) P pgs' [] P:=fun bk' hA hc s0 s1=>{
  clean:=hc
  len:=by rw [hA.len]; exact h.len
  most:=by rw [hA.len]; exact h.most
  root:=⟨_,_,s0,s1,by rw [hB]; exact hnx⟩
  ring:=by
   have h3:Holds 2 360 a s bk' (C.map recL):=h.ring.same hA.len fun i _=>hA.eq h.clean (by omega)
   have h4:=h3.forget (by rw [List.length_map]; have:=h.seqs.2; omega)
   rw [List.length_map] at h4
   exact h4
  tree:=by
   rw [hA.len]
   refine ht.congr fun q _=>blkOf_eq (D:=⟨bk,true,left⟩) (D':=⟨bk',true, -1⟩) (hA.eq h.clean (by omega))
  nd:=hnd
  few:=by rw [hA.len]; exact hfew
  coms:=fun l hl=>by cases hl
  now:=rfl
  ok0:=h.ok
  fits0:=by rw [hA.len]; exact h.fits
  fits:=by rw [hA.len]; exact h.fits
  gens:=hg
  seqs:=⟨by have:=h.seqs.1; omega,by have:=h.seqs.2; simp; omega⟩ }
 have hup:Upto (sDev ⟨bk,true,left⟩ (g+1) B) (n+2)∧(sDev ⟨bk,true,left⟩ (g+1) B).bk.length=bk.length:=by
  unfold sDev wroteD wroteC
  have hw:=wdev_upto hu (((g+1) % 2:Nat):Int) (sealG (g+1) B)
  split
  ·split
   ·exact ⟨hu.more (by omega),rfl⟩
   ·split
    ·have hf:=fdev_upto hw.1
     exact ⟨hf.1.more (by omega),hf.2.trans hw.2⟩
    ·exact ⟨hw.1.more (by omega),hw.2⟩
  ·exact ⟨hu.more (by omega),rfl⟩
 have hpar:(g+1) % 2=0∨(g+1) % 2=1:=by omega
 have hset:∀ (l:List Bk),Clean l→Still l 0 b0→Still l 1 b1→l.length=bk.length→Still (l.set ((g+1) % 2) ⟨sealG (g+1) B,[]⟩) 0 (if (g+1) % 2=0 then sealG (g+1) B else b0)∧Still (l.set ((g+1) % 2) ⟨sealG (g+1) B,[]⟩) 1 (if (g+1) % 2=0 then b1 else sealG (g+1) B):=fun l _ q0 q1 hl=>by
  unfold Still at *
  have hl2:2≤l.length:=by rw [hl]; exact h2
  rcases hpar with e | e
  ·rw [e,if_pos rfl,if_pos rfl]
   exact ⟨by rw [List.getElem?_set_self (by omega)],by rw [List.getElem?_set_ne (by omega)]; exact q1⟩
  ·rw [e,if_neg (by omega),if_neg (by omega)]
   exact ⟨by rw [List.getElem?_set_ne (by omega)]; exact q0,by rw [List.getElem?_set_self (by omega)]⟩
 have hK:(g+1) % 2 < 2:=Nat.mod_lt _ (by omega)
 have hkl:(g+1) % 2 < bk.length:=by have:2≤bk.length:=h2; omega
 have hAw:∀ x,Apart (fun i=>i < 2) bk (wrote bk ((g+1) % 2) x):=fun x=>(apart_wrote bk _ x).mono fun i e=>e ▸ hK
 have hAset:Apart (fun i=>i < 2) bk (bk.set ((g+1) % 2) ⟨sealG (g+1) B,[]⟩):=by
  have h3:=(hAw (sealG (g+1) B)).trans (apart_flushed (K:=fun i=>i < 2) _)
  rwa [flushed_one h.clean hkl] at h3
 have hcset:Clean (bk.set ((g+1) % 2) ⟨sealG (g+1) B,[]⟩):=by
  have h3:=clean_flushed (wrote bk ((g+1) % 2) (sealG (g+1) B))
  rwa [flushed_one h.clean hkl] at h3
 obtain ⟨s0,s1⟩:=hset bk h.clean k0 k1 rfl
 by_cases hz0:left=0
 ·right
  obtain ⟨e1,e2⟩:=save_first (D:=⟨bk,true,left⟩) hgb rfl hz0 h2 h480
  refine ⟨e1,by simp only; omega,?_⟩
  rw [e2] at hup ⊢
  exact ⟨rfl,hup.1,⟨h.len,h.most⟩,fun ps=>.inl ⟨g,pg,a,s,P0,pgs,C,h.spare ((Apart.refl _ _).trans (apart_comes _ ps)) (clean_comes _ _),by omega,by omega⟩⟩
 by_cases hz1:left=1
 ·right
  obtain ⟨e1,e2⟩:=save_second (D:=⟨bk,true,left⟩) hgb rfl hz1 h2 h480
  refine ⟨e1,by simp only; omega,?_⟩
  rw [e2] at hup ⊢
  refine ⟨rfl,hup.1,by simp only [wrote_length]; exact ⟨h.len,h.most⟩,fun ps=>?_⟩
  simp only
  rcases comes_one h.clean hkl (sealG (g+1) B) ps with e | e
  ·left
   rw [e]
   exact ⟨g,pg,a,s,P0,pgs,C,h,by omega,by omega⟩
  ·right
   rw [e]
   exact ⟨g+1,_,_,_,_,_,_,hdone _ hAset hcset s0 s1,by omega,by simp; omega⟩
 ·left
  obtain ⟨e1,e2⟩:=save_ok (D:=⟨bk,true,left⟩) hgb rfl ⟨hz0,hz1⟩ h2 h480
  rw [e2] at hup ⊢
  simp only at e1 ⊢
  rw [flushed_one h.clean hkl] at *
  refine ⟨e1,trivial,fun hl=>?_,hAset,hup.1,hdone _ hAset hcset s0 s1⟩
  have e:∀ z:Int,z < 0→spent z=z:=fun z hz=>by unfold spent; rw [if_neg (by omega)]
  rw [e left hl,e left hl]
  exact hl
end
end Go.Proofs.YtgkofgifoiinkaaGreat
namespace Go.Proofs.YtgkofgifoiinkaaGreat
open Go.RowKit
section
variable {w:World} {tb db pb fr:Nat} {D:Dv} {ps:List Pg} {S F G:Nat→Prop}
def TNews (w:World) (db pb n:Nat) (e:Ending) (w':World):Prop:=e = .returned (.tuple #[ptr w.heap.size,err 0])∧Cel w' w.heap.size [ptr db,ptr pb, .int .i64 (n:Nat)] 142∧Below w.heap.size w w'
theorem tnew_ok (hd:Dev w db D F) (hp:Pgs w pb ps G) (n:Nat) (h:n+ps.length≤D.bk.length):Calls Tryz.prog 69 #[ptr db,ptr pb, .int .i64 (n:Int)] w (TNews w db pb n):=by
 have Z:=size_any hd
 have P:=pgsize_any hp
 have h1:=hd.bks.2
 have h2:=hp.few
 have hwr:IntKind.i64.wrap ((D.bk.length:Int)-(ps.length:Int))=(D.bk.length:Int)-(ps.length:Int):=IntWalk.i64_in _ (by omega)
 have hb:Below w.heap.size w (w.alloc (.cells #[ptr db,ptr pb, .int .i64 (n:Int)] 142)):=(Below.refl _ _).alloc (Nat.le_refl _) _
 have C:=Cel.new w #[ptr db,ptr pb, .int .i64 (n:Int)] 142
 generalize (D.bk.length)=dn at *
 generalize ps.length=pn at *
 have h0:¬ (n:Int) < 0:=by omega
 have h5:¬ (dn:Int)-(pn:Int) < (n:Int):=by omega
 have HH:=Lib.hid (anZ hb C)
 clear hd hp h h1 h2 hb C
 go_enter Tryz.func69,Tryz.ntmps69
 go_wp2_with fail
 refine Z.mono ?_
 rintro e w1 ⟨rfl,rfl⟩
 clear Z
 go_wp2_with fail
 refine P.mono ?_
 rintro e w1 ⟨rfl,rfl⟩
 clear P
 go_wp2
 go_ret2
 exact ⟨rfl,HH.out.2,HH.out.1⟩
theorem run_loadVar_one {P:Program} {w:World} {g:Nat} {ty:TypeId} {d:TypeDesc} {v:Value} (hu:P.underlying ty=some d) (hd:(match d with | .struct _ | .array _ _=>true | _=>false)=false) (hc:w.cell? ⟨g,0,none⟩=some v):(loadVar ty ⟨g,0,none⟩).run P w = .ok v w:=by
 have h1:(isAgg ty).run P w = .ok false w:=by
  unfold isAgg
  rw [Sem.run_bind,run_underlying hu w]
  cases d <;> simp_all
 simp [loadVar,Sem.run_bind,h1,go_sem,hc]
theorem results_cells2 {P:Program} {fn:Func} {p u:Tmp} {t1 t2:TypeId} {d1 d2:TypeDesc} {tmps:Array Value} {w:World} {g1 g2:Nat} {v1 v2:Value} (h:fn.results = #[.cell p t1, .cell u t2]) (h1:tmps.getD p undef = .pointer (some ⟨g1,0,none⟩)) (h2:tmps.getD u undef = .pointer (some ⟨g2,0,none⟩))
  (hu1:P.underlying t1=some d1) (hd1:(match d1 with | .struct _ | .array _ _=>true | _=>false)=false) (hu2:P.underlying t2=some d2) (hd2:(match d2 with | .struct _ | .array _ _=>true | _=>false)=false)
  (c1:w.cell? ⟨g1,0,none⟩=some v1) (c2:w.cell? ⟨g2,0,none⟩=some v2):(results fn tmps).run P w = .ok (.tuple #[v1,v2]) w:=by
 have h1':tmps[p]?.getD undef = .pointer (some ⟨g1,0,none⟩):=by simpa using h1
 have h2':tmps[u]?.getD undef = .pointer (some ⟨g2,0,none⟩):=by simpa using h2
 simp only [results,h]
 simp [h1',h2',asAddr,run_loadVar_one hu1 hd1 c1,run_loadVar_one hu2 hd2 c2]
end
end Go.Proofs.YtgkofgifoiinkaaGreat
