/- Nodes as they are filled, in the model's memory: a row of nodes, the last one's entries in a row of the call's own; one node more, one entry more; no condition. -/
import Derived.Test.YtgkofgifoiinkaaGreatN24
import Derived.Test.YtgkofgifoiinkaaGreatN25
import Derived.Test.YtgkofgifoiinkaaGreatN14
import Derived.Test.YtgkofgifoiinkaaGreatN13
import Derived.Test.YtgkofgifoiinkaaGreatN17
namespace Go.Proofs.YtgkofgifoiinkaaGreat
structure PS (J:Jn) (D:Dv) (L:List Bytes) (n:Nat):Prop where
 fit:J.Fit
 upto:Upto D n
 on:D.on=true
 live:J.dead=false
 clean:Clean D.bk
 holds:Holds J.fr J.size J.at_ J.seq D.bk L
 spot:J.spot=(encA J.at_ J.seq (0,0) L).2
 held:J.held=L.length
 short:∀ l∈L,l.length≤1000000
theorem PS.ahead {J:Jn} {D:Dv} {L:List Bytes} {n:Nat} (h:PS J D L n):J.ahead=takenBy L:=by
 have:=congrArg Prod.fst h.spot
 rw [encA_spot] at this
 simpa using this
theorem encS_sum (a s:Nat) (t:Spot) (l:Bytes):(encS a s t l).2.2 < 18446744073709551616:=by
 unfold encS
 have:=sumOf_lt (endB a s (encP a s t (piecesL l)).2)
 simp only
 omega
theorem PS.append {J:Jn} {D:Dv} {L:List Bytes} {n:Nat} (h:PS J D L n) {l:Bytes} (hl:l.length≤1000000) (hr:takenBy L+nBlocks l.length≤J.size) (hs:J.seq+J.held+1 < 18446744073709551616) (hc:(writeD J D l).2.2=0) :
  PS (appJ J D l) (writeD J D l).1 (L++[l]) (n+nPieces l.length+3):=by
 have hA:appJ J D l=J.more (writeD J D l).2.1:=by unfold appJ; rw [if_pos hc]
 obtain ⟨w1,_,w3⟩:=went_writeD (J:=J) h.on h.holds.fits h.holds.atl (l:=l) (by rw [h.ahead]; exact hr)
 have hsp:=w3 hc
 have hsp2:(encS J.at_ J.seq J.spot l).2=(encA J.at_ J.seq (0,0) (L++[l])).2:=by rw [encA_append,encA_one, ← h.spot]
 obtain ⟨k1,k2⟩:=(holds_write h.on h.holds h.spot hr).1 hc
 rw [hA]
 exact {
  fit:={
   atl:=h.fit.atl
   few:=h.fit.few
   frl:=h.fit.frl
   ahl:=by
    show (writeD J D l).2.1.1≤J.size
    rw [hsp,encS_spot]
    simp only [h.ahead]
    exact hr
   sql:=by show J.seq+(J.held+1) < _; omega
   sml:=by
    show (writeD J D l).2.1.2 < _
    rw [hsp]
    exact encS_sum _ _ _ _ }
  upto:=write_upto h.upto
  on:=by
   rcases w1.ends with ⟨_,e⟩ | ⟨e,_⟩
   ·exact e
   ·rw [hc] at e; cases e
  live:=h.live
  clean:=k1
  holds:=k2
  spot:=by
   show (writeD J D l).2.1=_
   rw [hsp]
   exact hsp2
  held:=by
   show J.held+1=_
   rw [h.held,List.length_append]
   rfl
  short:=fun x hx=>by
   rcases List.mem_append.1 hx with hx | hx
   ·exact h.short x hx
   ·rw [List.mem_singleton.1 hx]; exact hl }
structure Lost (J:Jn) (D:Dv) (L:List Bytes) (l:Bytes) (n:Nat):Prop where
 off:D.on=false
 upto:Upto D n
 len:J.fr+J.size≤D.bk.length
 keeps:∀ ps,Holds J.fr J.size J.at_ J.seq (comes D.bk ps) L∨Holds J.fr J.size J.at_ J.seq (comes D.bk ps) (L++[l])
theorem PS.lost {J:Jn} {D:Dv} {L:List Bytes} {n:Nat} (h:PS J D L n) {l:Bytes} (hr:takenBy L+nBlocks l.length≤J.size) (hc:(writeD J D l).2.2≠0) :
  (writeD J D l).2.2=8∧¬ D.left < 0∧appJ J D l=J.dies∧Lost J (writeD J D l).1 L l (n+nPieces l.length+3):=by
 obtain ⟨w1,_,_⟩:=went_writeD (J:=J) h.on h.holds.fits h.holds.atl (l:=l) (by rw [h.ahead]; exact hr)
 have h8:(writeD J D l).2.2=8∧(writeD J D l).1.on=false:=by
  rcases w1.ends with ⟨e,_⟩ | e
  ·exact absurd e hc
  ·exact e
 refine ⟨h8.1,fun hl=>hc (w1.free hl).1,by unfold appJ; rw [if_neg hc],h8.2,write_upto h.upto,by rw [w1.len]; exact h.holds.fits,(holds_write h.on h.holds h.spot hr).2 hc⟩
theorem Holds.reopen {fr sz a s:Nat} {bk:List Bk} {L:List Bytes} {left:Int} {n:Nat} (h:Holds fr sz a s bk L) (hc:Clean bk) (hu:Upto ⟨bk,true,left⟩ n) (hb:bk.length≤4096) (hs:s+L.length < 18446744073709551616) (hl:∀ l∈L,l.length≤1000000) :
  (scan a s (standsFrom fr sz a bk 0) (0,0) []).map Prod.fst=L∧PS (foundJ (newJ fr sz a s) (scan a s (standsFrom fr sz a bk 0) (0,0) [])) ⟨bk,true,left⟩ L n:=by
 obtain ⟨m,h1,h2,h3⟩:=h.found
 rw [h1]
 have hlen:m.length=L.length:=by rw [← h2,List.length_map]
 have hsp:(foundJ (newJ fr sz a s) m).spot=(encA a s (0,0) L).2:=h3
 have hft:=h.fits
 have hrm:=h.room
 have hat:=h.atl
 refine ⟨h2, {
  fit:={
   atl:=hat
   few:=by show sz≤4096; omega
   frl:=by show fr≤4096; omega
   ahl:=by
    have:=congrArg Prod.fst hsp
    rw [encA_spot] at this
    show (foundJ (newJ fr sz a s) m).spot.1≤sz
    rw [this]
    simpa using hrm
   sql:=by show s+(0+m.length) < _; omega
   sml:=by
    have:=congrArg Prod.snd hsp
    show (foundJ (newJ fr sz a s) m).spot.2 < _
    rw [this]
    rcases List.eq_nil_or_concat L with rfl | ⟨L',l,rfl⟩
    ·simp [encA]
    ·rw [List.concat_eq_append,encA_append,encA_one]
     exact encS_sum _ _ _ _ }
  upto:=hu
  on:=rfl
  live:=rfl
  clean:=hc
  holds:=h
  spot:=hsp
  held:=by show 0+m.length=_; omega
  short:=hl }⟩
theorem PS.forget {J:Jn} {D:Dv} {L:List Bytes} {n:Nat} (h:PS J D L n):PS J.gone D [] n where
 fit:={
  atl:=by show ringAt _ _ _ < J.size; exact ringAt_le h.fit.atl h.fit.ahl
  few:=h.fit.few
  frl:=h.fit.frl
  ahl:=Nat.zero_le _
  sql:=by show J.seq+J.held+0 < _; have:=h.fit.sql; omega
  sml:=by show 0 < _; decide }
 upto:=h.upto
 on:=h.on
 live:=h.live
 clean:=h.clean
 holds:=by
  show Holds J.fr J.size (ringAt J.at_ J.size J.ahead) (J.seq+J.held) D.bk []
  rw [h.ahead,h.held]
  exact h.holds.forget (by have:=h.fit.sql; have:=h.held; omega)
 spot:=rfl
 held:=rfl
 short _ hx:=by cases hx
theorem foreign_noughts:Foreign noughts:=foreign_of (by decide)
open Go.RowKit
structure JM (w0 w:World) (b jb:Nat) (J:Jn) (D:Dv) (F:Nat→Prop):Prop where
 dev:Dev w b D F
 head:JAt w jb b J
 fo:∀ q,F q→w0.heap.size≤q
 jo:w0.heap.size≤jb
 jF:¬ F jb
 under:Below w0.heap.size w0 w
def SameJ (J J':Jn):Prop:=J'.fr=J.fr∧J'.size=J.size∧J'.at_=J.at_∧J'.seq=J.seq
section
variable {w0 w w':World} {b jb n:Nat} {J J':Jn} {D D':Dv} {F S:Nat→Prop} {L:List Bytes}
theorem JM.later (h:JM w0 w b jb J D F) (hb:Below w.heap.size w w'):JM w0 w' b jb J D F where
 dev:=h.dev.below hb
 head:=h.head.below hb
 fo:=h.fo
 jo:=h.jo
 jF:=h.jF
 under:=h.under.trans (hb.mono h.under.size)
theorem JM.other (h:JM w0 w b jb J D F) (ho:Only S w w') (hS:∀ q,S q→w0.heap.size≤q∧¬ F q∧q≠jb):JM w0 w' b jb J D F where
 dev:=h.dev.other ho fun q hq hs=>(hS q hs).2.1 hq
 head:=h.head.only ho fun hs=>(hS jb hs).2.2 rfl
 fo:=h.fo
 jo:=h.jo
 jF:=h.jF
 under:=h.under.trans (ho.below h.under.size fun q hs=>(hS q hs).1)
theorem JM.step (h:JM w0 w b jb J D F) (hd:Dev w' b D' (Grow F w w')) (hj:JAt w' jb b J') (ho:Only (fun q=>F q∨q=jb) w w'):JM w0 w' b jb J' D' (Grow F w w') where
 dev:=hd
 head:=hj
 fo q hq:=hq.elim (h.fo q) fun hq=>by have:=h.under.size; omega
 jo:=h.jo
 jF hq:=hq.elim h.jF fun hq=>by have:=h.head.lt; omega
 under:=h.under.trans (ho.below h.under.size fun q hq=>hq.elim (h.fo q) fun e=>e ▸ h.jo)
theorem JM.few (h:JM w0 w b jb J D F):D.bk.length≤4096:=by
 obtain ⟨_,_,_,_,_,hd⟩:=h.dev
 exact hd.few
def Kept (w0 w:World) (b jb n:Nat) (J:Jn) (F:Nat→Prop) (L:List Bytes) (w':World):Prop :=
 ∃ J' D',JM w0 w' b jb J' D' (Grow F w w')∧PS J' D' L n∧SameJ J J'∧D'.left < 0∧Only (fun q=>F q∨q=jb) w w'
theorem dev_open (hD:Dev w b D F) (ho:D.on=true) (hc:Clean D.bk) (hu:Upto D n) {fr sz a s:Nat} (hh:Holds fr sz a s D.bk L) (hs:1≤s∧s≤4611686018427387904) (hl:∀ l∈L,l.length≤1000000) :
  Calls Tryz.prog 73 #[ptr b, .int .i64 (fr:Int), .int .i64 (sz:Int), .int .i64 (a:Int), .int .u64 (s:Int)] w fun e w' =>
   ∃ lv G J',e = .returned (.tuple #[ptr w.heap.size,lv,err 0])∧RowG w' G lv L∧(∀ q,G q→w.heap.size < q∧q < w'.heap.size)∧JAt w' w.heap.size b J'∧PS J' D L n∧J'.fr=fr∧J'.size=sz∧J'.at_=a∧J'.seq=s∧Below w.heap.size w w':=by
 have hfew:D.bk.length≤4096:=by
  obtain ⟨_,_,_,_,_,h⟩:=hD
  exact h.few
 have hft:=hh.fits
 have h2:=hh.two
 have hat:=hh.atl
 have hrm:=hh.room
 have hL:L.length≤takenBy L:=by
  clear hh hl hrm hft
  induction L with
  | nil=>exact Nat.zero_le _
  | cons x r ih =>
   have e:takenBy (x::r)=nBlocks x.length+takenBy r:=by simp [takenBy]
   rw [e,List.length_cons]
   unfold nBlocks
   omega
 refine (open_ok hD ho (fr:=fr) (sz:=sz) (a:=a) (s:=s) (by unfold mayLie; omega)).mono ?_
 rintro e w' ⟨lv,G,rfl,hrow,hG,hj,hb⟩
 obtain ⟨bk,on,left⟩:=D
 simp only at ho
 subst ho
 obtain ⟨k1,k2⟩:=hh.reopen (left:=left) hc hu hfew (by omega) hl
 rw [k1] at hrow
 exact ⟨lv,G,_,rfl,hrow,hG,hj,k2,rfl,rfl,rfl,rfl,hb⟩
end
end Go.Proofs.YtgkofgifoiinkaaGreat
namespace Go.Proofs.YtgkofgifoiinkaaGreat
open Go.RowKit
structure Rt (B:Nat→Bytes) (N:Nat) (root:Int) (prs:List Pr) (pgs:List Nat):Prop where
 at_:(root = -1∧prs=[]∧pgs=[])∨∃ l k,Sub B N l k∧root=(k.page:Int)∧prs=k.prs∧pgs=k.pgs∧l≤4096
 rise:RiseP prs
theorem Rt.congr {B B':Nat→Bytes} {N:Nat} {root:Int} {prs:List Pr} {pgs:List Nat} (hk:∀ q∈pgs,B' q=B q) (h:Rt B N root prs pgs):Rt B' N root prs pgs:=by
 refine ⟨?_,h.rise⟩
 rcases h.at_ with h | ⟨l,k,h1,h2,h3,h4,h5⟩
 ·exact .inl h
 ·exact .inr ⟨l,k,h1.congr (fun q hq=>hk q (h4 ▸ hq)),h2,h3,h4,h5⟩
def rootB (N:Nat) (root:Int):Bool:=decide (-1≤root∧root < (N:Int))
theorem tready_any {tb db pb fr:Nat} {D:Dv} {ps:List Pg} {S:Nat→Prop} (root:Int) (b:Bool) (w:World) (h:TrS w tb db pb fr D ps S) :
  Calls Tryz.prog 116 #[ptr tb, .int .i64 root, .bool b] w fun e w'=>e = .returned (err (if rootB ps.length root=true∧b=true then 0 else 1))∧w=w':=by
 obtain ⟨F,G,h⟩:=h
 have t1:w.cell? ⟨tb,1,none⟩=some (ptr pb):=h.tree.cell 1
 have P:=pgsize_any h.pgs
 generalize hc:(if rootB ps.length root=true∧b=true then (0:Int) else 1)=c
 have HC:=Lib.hid hc
 clear h hc
 by_cases h1:root < -1
 ·have e1:rootB ps.length root=false:=by unfold rootB; simp; omega
  have HE:=Lib.hid e1
  clear P e1
  go_enter Tryz.func116,Tryz.ntmps116
  go_wp2
  go_ret
  exact ⟨by rw [← HC.out,HE.out]; simp,rfl⟩
 ·have h1':(-1:Int)≤root:=by omega
  by_cases h2:root < (ps.length:Int)
  ·have e1:rootB ps.length root=true:=by unfold rootB; simp; omega
   have HE:=Lib.hid e1
   have h2':¬ (ps.length:Int)≤root:=by omega
   clear e1 h1
   rcases b with _ | _
   ·go_enter Tryz.func116,Tryz.ntmps116
    go_wp2_with fail
    refine P.mono ?_
    rintro e w1 ⟨rfl,rfl⟩
    clear P
    go_wp2
    go_ret
    exact ⟨by rw [← HC.out]; simp,rfl⟩
   ·go_enter Tryz.func116,Tryz.ntmps116
    go_wp2_with fail
    refine P.mono ?_
    rintro e w1 ⟨rfl,rfl⟩
    clear P
    go_wp2
    go_ret
    exact ⟨by rw [← HC.out,HE.out]; simp,rfl⟩
  ·have e1:rootB ps.length root=false:=by unfold rootB; simp; omega
   have HE:=Lib.hid e1
   have h2':(ps.length:Int)≤root:=by omega
   clear e1 h1 h2
   go_enter Tryz.func116,Tryz.ntmps116
   go_wp2_with fail
   refine P.mono ?_
   rintro e w1 ⟨rfl,rfl⟩
   clear P
   go_wp2
   go_ret
   exact ⟨by rw [← HC.out,HE.out]; simp,rfl⟩
def Gets (w:World) (S:Nat→Prop) (prs:List Pr) (key:Bytes) (e:Ending) (w':World):Prop :=
 ∃ v,e = .returned (.tuple #[v, .bool (lookP prs key).isSome,err 0])∧Bsf w' S v ((lookP prs key).getD [])∧Below w.heap.size w w'
structure GetR (S:Nat→Prop) (B:Nat→Bytes) (N:Nat) (key:Bytes) (all:List Pr) (nb:Nat) (wr:World) (l:Nat) (pg:Int) (es:List En) (toZ:Bytes) (prs:List Pr) (pgs:List Nat) (ev tv:Value):Prop where
 cel:Cel wr nb [.int .i64 pg, .int .i64 (l:Int),ev,tv] 179
 rd:Rd kdEn wr S ev es
 ends:Bsf wr S tv toZ
 held:Nb B N l es prs pgs
 ok:l=0∧es=[]∨NdOk N l es
 rise:RiseP prs
 und:Under prs toZ
 look:lookP all key=lookP prs key
 few:l≤4096
end Go.Proofs.YtgkofgifoiinkaaGreat
namespace Go.Proofs.YtgkofgifoiinkaaGreat
open Go.RowKit
structure RiseS (B:Nat→Bytes) (N lvl:Nat) (Ls:List (List En)) (prs:List Pr) (pgs:List Nat):Prop where
 ok:∀ L∈Ls,EsOk N lvl L
 two:2≤Ls.length→∀ L∈Ls,NdOk N lvl L
 nb:Nb B N lvl Ls.flatten prs pgs
section
variable {D:Dv} {fr:Nat} {ps:List Pg} {P:List Nat} {lvl i n:Nat} {Ls:List (List En)} {prs:List Pr} {pgs:List Nat} {BL:List Bytes}
theorem rise_up (hN:ps.length≤4096) (hN0:0 < ps.length) (hBL:BL.length=i) (hn:n=Ls.length) (hfree:∀ j,j < i+n→leastFree (tdones j ps)≠none) (hP:∀ q,ps[q]? = some (false,false)→q ∉ P)
  (hpg:∀ q∈pgs,q∈P∨q∈placeT ps i) (hok:∀ L∈Ls,NdOk ps.length lvl L) (hnb:Nb (ovr (blkOf D fr) ((placeT ps i).zip BL)) ps.length lvl Ls.flatten prs pgs) :
  ∃ kids:List Sb,placeE (tdones i ps) (Ls.map (mkN lvl)) n=kids.map kidE∧kids.length=n∧prs=kids.flatMap Sb.prs∧(kids.flatMap Sb.pgs).Perm (pgs++placeT (tdones i ps) n) ∧
   (∀ k∈kids,Sub (ovr (blkOf D fr) ((placeT ps (i+n)).zip (BL++placeB (Ls.map (mkN lvl)) n))) ps.length lvl k)∧∀ q∈kids.flatMap Sb.pgs,q∈P∨q∈placeT ps (i+n):=by
 subst hn
 obtain ⟨hnd,hfr⟩:=placeT_free hfree
 have hlenB:(BL++placeB (Ls.map (mkN lvl)) Ls.length).length=(placeT ps (i+Ls.length)).length:=by rw [List.length_append,placeB_length (by simp),hBL,placeT_length]
 have e2:ovr (blkOf D fr) ((placeT ps (i+Ls.length)).zip (BL++placeB (Ls.map (mkN lvl)) Ls.length))=ovr (ovr (blkOf D fr) ((placeT ps i).zip BL)) ((placeT (tdones i ps) Ls.length).zip (placeB (Ls.map (mkN lvl)) Ls.length)):=by
  rw [placeT_add,List.zip_append (by rw [placeT_length,hBL]),ovr_append]
 have hadd:=placeT_add ps i Ls.length
 rw [hadd] at hnd
 obtain ⟨_,hnd2,hdis⟩:=List.nodup_append.1 hnd
 have hlen2:(placeB (Ls.map (mkN lvl)) Ls.length).length=(placeT (tdones i ps) Ls.length).length:=by rw [placeB_length (by simp),placeT_length]
 have hout:∀ q∈pgs,q ∉ placeT (tdones i ps) Ls.length:=fun q hq ht=>by
  rcases hpg q hq with h | h
  ·exact hP q (hfr q (by rw [hadd]; exact List.mem_append_right _ ht)) h
  ·exact hdis q h q ht rfl
 have hnb2:=hnb.congr (B':=ovr (blkOf D fr) ((placeT ps (i+Ls.length)).zip (BL++placeB (Ls.map (mkN lvl)) Ls.length))) (fun q hq=>by rw [e2]; exact ovr_out' hlen2 (hout q hq))
 obtain ⟨kids,k1,k2,k3,k4⟩:=place_kids (ts:=placeT (tdones i ps) Ls.length) (placeT_length _ _) hnb2 hok (fun t ht=>(List.getElem?_eq_some_iff.1 (hfr t (by rw [hadd]; exact List.mem_append_right _ ht))).1) (fun j t L ht hL=>by
  rw [e2]
  refine ovr_at hlen2 hnd2 ht ?_
  rw [placeB_kids,List.getElem?_map,hL]
  rfl)
 refine ⟨kids,by rw [placeE_kids,k1],?_,k2.symm,k3.trans List.perm_append_comm,k4,fun q hq=>?_⟩
 ·have:=congrArg List.length k1
  simpa [placeT_length] using this
 ·rcases List.mem_append.1 ((k3.mem_iff (a:=q)).1 hq) with h | h
  ·exact .inr (by rw [hadd]; exact List.mem_append_right _ h)
  ·exact (hpg q h).imp (fun h=>h) fun h=>by rw [hadd]; exact List.mem_append_left _ h
theorem rise_fill {B:Nat→Bytes} {kids:List Sb} (hN:ps.length≤4096) (hN0:0 < ps.length) (hsub:∀ k∈kids,Sub B ps.length lvl k) (hr:RiseP prs) (hp:∀ p∈prs,PrOk p) (hprs:prs=kids.flatMap Sb.prs) (h2:2≤kids.length) :
  RiseS B ps.length (lvl+1) (shareL (lvl+1) (fillL (lvl+1) (kids.map kidE))) prs (kids.flatMap Sb.pgs)∧(shareL (lvl+1) (fillL (lvl+1) (kids.map kidE))).length≤2*(kids.length*38) / 503+1∧∀ e∈kids.map kidE,EOk ps.length (lvl+1) e:=by
 have hnb:Nb B ps.length (lvl+1) (kids.map kidE) prs (kids.flatMap Sb.pgs):=Nb.succ.2 ⟨kids,rfl,hprs,rfl,hsub⟩
 have he:=hnb.eok hN hN0 hp
 have hF:=Filled.of he (hnb.rise hr)
 refine ⟨⟨hF.ok,hF.two,by rw [hF.flat]; exact hnb⟩,?_,he⟩
 have hc:=hF.count
 have hm:=nsize_max he
 rw [List.length_map,show maxE (lvl+1)=38 by unfold maxE; rw [if_neg (by omega)]] at hm
 have:2*nsize (lvl+1) (kids.map kidE) / 503≤2*(kids.length*38) / 503:=Nat.div_le_div_right (by omega)
 omega
theorem rise_lone {B:Nat→Bytes} {N:Nat} {L:List En} (h:RiseS B N lvl [L] prs pgs) (hl:loneB lvl L.length=true) (hlv:lvl≤4096) (hr:RiseP prs):∃ e,L[0]? = some e∧Rt B N (e.page:Int) prs pgs:=by
 unfold loneB at hl
 have h0:0 < lvl:=of_decide_eq_true (Bool.and_eq_true_iff.1 hl).1
 have h2:L.length < 2:=of_decide_eq_true (Bool.and_eq_true_iff.1 hl).2
 have hne:=(h.ok L (List.mem_singleton.2 rfl)).1
 obtain ⟨e,rfl⟩:∃ e,L=[e]:=List.length_eq_one_iff.1 (by have:=List.length_pos_iff.2 hne; omega)
 obtain ⟨l,rfl⟩:∃ l,lvl=l+1:=⟨lvl-1,by omega⟩
 have hnb:=h.nb
 rw [List.flatten_singleton] at hnb
 obtain ⟨kids,h1,rfl,rfl,h4⟩:=Nb.succ.1 hnb
 obtain ⟨k,rfl⟩:∃ k,kids=[k]:=List.length_eq_one_iff.1 (by have:=congrArg List.length h1; simpa using this.symm)
 have he:e=kidE k:=by simpa using h1
 subst he
 refine ⟨_,rfl,⟨.inr ⟨l,k,h4 k (by simp),rfl,by simp,by simp,by omega⟩,hr⟩⟩
theorem rise_alone {B:Nat→Bytes} {N:Nat} {L:List En} (h:RiseS B N lvl [L] prs pgs) (hl:loneB lvl L.length=false):NdOk N lvl L:=by
 refine ⟨h.ok L (List.mem_singleton.2 rfl),fun h0=>?_⟩
 unfold loneB at hl
 rcases Bool.and_eq_false_iff.1 hl with h1 | h1
 ·exact absurd h0 (of_decide_eq_false h1)
 ·have:=of_decide_eq_false h1
  omega
theorem rise_none {B:Nat→Bytes} {N:Nat} (h:RiseS B N lvl [] prs pgs):Rt B N (-1) prs pgs:=by
 have hnb:=h.nb
 have:prs=[]∧pgs=[]:=by
  cases lvl with
  | zero =>
   obtain ⟨h1,h2⟩:=Nb.zero.1 hnb
   exact ⟨List.map_eq_nil_iff.1 h1.symm,h2⟩
  | succ l =>
   obtain ⟨kids,h1,h2,h3,_⟩:=Nb.succ.1 hnb
   have hk:=List.map_eq_nil_iff.1 h1.symm
   subst hk
   exact ⟨h2,h3⟩
 rw [this.1,this.2]
 exact ⟨.inl ⟨rfl,rfl,rfl⟩,List.Pairwise.nil⟩
end
end Go.Proofs.YtgkofgifoiinkaaGreat
namespace Go.Proofs.YtgkofgifoiinkaaGreat
open Go.RowKit
theorem twpList_append_run {P:Program} {t:TypeId} {ops:Array Oper} {rest:List Oper} {o:Oper} {a:Act} {w w':World} {v v' xv:Value} {Q:Exit→Act→World→Prop} (hgd:o.guard=none) (s x:Operand)
  (ho:o.op = .call { callee:=.builtin .append,args := #[s,x],argTypes := #[t,t] }) (hs:a.eval s=v) (hx:a.eval x=xv) (hr:(Builtin.append_ #[t,t] o.type #[v,xv]).run P w = .ok v' w')
  (h:wpList P ops Q rest (a.put o.dst v') w'):wpList P ops Q (o::rest) a w:=by
 refine wpList_plain hgd fun _ hK=>?_
 unfold Oper.wp execOp
 simp only [ho,resolve,invoke,builtin,Sem.run_bind,Sem.run_pure,Result.andThen_ok,List.map_toArray,List.map_cons,List.map_nil,hs,hx,hr]
 exact hK _ _ h
abbrev lastC (lvl:Nat) (ev:Value):List Value:=[.int .i64 0, .int .i64 (lvl:Nat),ev, .slice none 0 0]
structure FlAt (w0 w:World) (S0 S:Nat→Prop) (lvl:Nat) (i:List (List En)) (a:List En) (ts:List NT) (g cap:Nat) (cur:Array Value) (ev:Value):Prop where
 more:∀ q,S q→S0 q∨w0.heap.size≤q
 inc:∀ q,S0 q→S q
 con:ts.map kdNd.con=i.map (mkN lvl)
 ok:∀ t∈ts,kdNd.ok w S t
 blk:w.heap[g]? = some (.cells cur 179 (0,0))
 cap1:i.length+1≤cap
 cap2:cap≤maxLen
 sz:cur.size=cap*4
 cells:cur.toList.take ((i.length+1)*4)=kdNd.cells ts++lastC lvl ev
 row:Ro kdEn 197 w S ev a
 gS:S g
 ne:ev.ownBlock≠some g
 newg:w0.heap.size≤g
 newe:∀ q,ev.ownBlock=some q→w0.heap.size≤q
 lt:∀ q,S q→q < w.heap.size
def FillR (w0 w:World) (S0 X:Nat→Prop) (lvl:Nat) (lv:Value) (Ls:List (List En)):Prop :=
 Below w0.heap.size w0 w∧((Ls=[]∧lv = .slice none 0 0)∨∃ S i a ts g cap cur ev,Ls=i++[a]∧lv = .slice (some ⟨g,0,none⟩) (i.length+1) cap∧FlAt w0 w S0 S lvl i a ts g cap cur ev∧∀ q,X q→¬ S q)
section
variable {w0 w w':World} {S0 S X:Nat→Prop} {lvl:Nat} {i:List (List En)} {a:List En} {ts:List NT} {g cap:Nat} {cur:Array Value} {ev:Value}
theorem FlAt.tlen (h:FlAt w0 w S0 S lvl i a ts g cap cur ev):ts.length=i.length:=by
 have:=congrArg List.length h.con
 simpa using this
theorem FlAt.below (h:FlAt w0 w S0 S lvl i a ts g cap cur ev) (hb:Below w.heap.size w w'):FlAt w0 w' S0 S lvl i a ts g cap cur ev :=
 {more:=h.more,inc:=h.inc,con:=h.con,ok:=fun t ht=>kdNd.step (h.ok t ht) (Step.of_below hb S),blk:=(hb.block g (h.lt g h.gS)).trans h.blk,cap1:=h.cap1,cap2:=h.cap2,sz:=h.sz,cells:=h.cells,row:=h.row.below hb,
  gS:=h.gS,ne:=h.ne,newg:=h.newg,newe:=h.newe,lt:=fun q hq=>Nat.lt_of_lt_of_le (h.lt q hq) hb.size }
theorem FillR.below {lv:Value} {Ls:List (List En)} (h:FillR w0 w S0 X lvl lv Ls) (hb:Below w.heap.size w w'):FillR w0 w' S0 X lvl lv Ls:=by
 refine ⟨h.1.trans (hb.mono h.1.size),h.2.imp (fun h=>h) ?_⟩
 rintro ⟨S,i,a,ts,g,cap,cur,ev,h1,h2,h3,h4⟩
 exact ⟨S,i,a,ts,g,cap,cur,ev,h1,h2,h3.below hb,h4⟩
theorem FillR.newx {lv:Value} {Ls:List (List En)} (h:FillR w0 w S0 X lvl lv Ls):FillR w0 w S0 (fun q=>q=w.heap.size) lvl lv Ls:=by
 refine ⟨h.1,h.2.imp (fun h=>h) ?_⟩
 rintro ⟨S,i,a,ts,g,cap,cur,ev,h1,h2,h3,h4⟩
 exact ⟨S,i,a,ts,g,cap,cur,ev,h1,h2,h3,fun q hq hs=>by have:=h3.lt q hs; omega⟩
theorem FillR.shape {lv:Value} {Ls:List (List En)} (h:FillR w0 w S0 X lvl lv Ls):∃ la lc,lv = .slice la Ls.length lc:=by
 rcases h.2 with ⟨rfl,rfl⟩ | ⟨S,i,a,ts,g,cap,cur,ev,rfl,rfl,_,_⟩
 ·exact ⟨none,0,rfl⟩
 ·exact ⟨some ⟨g,0,none⟩,cap,by rw [List.length_append]; rfl⟩
theorem FlAt.cellj (h:FlAt w0 w S0 S lvl i a ts g cap cur ev) {j:Nat} {u:Value} (hu:(kdNd.cells ts++lastC lvl ev)[j]? = some u):w.cell? ⟨g,j,none⟩=some u:=by
 rw [← h.cells,List.getElem?_take] at hu
 split at hu
 ·simp only [World.cell?,h.blk]
  simpa using hu
 ·cases hu
theorem FlAt.froz (h:FlAt w0 w S0 S lvl i a ts g cap cur ev) (j:Nat):w.frozen? ⟨g,j,none⟩=false:=by
 simp [World.frozen?,h.blk]
theorem FlAt.last (h:FlAt w0 w S0 S lvl i a ts g cap cur ev) {j:Nat} {u:Value} (hu:(lastC lvl ev)[j]? = some u):w.cell? ⟨g,i.length*4+j,none⟩=some u:=by
 refine h.cellj ?_
 have hl:(kdNd.cells ts).length=i.length*4:=by rw [kdNd.cells_length,h.tlen]; rfl
 rw [List.getElem?_append_right (by omega),hl,show i.length*4+j-i.length*4=j by omega]
 exact hu
theorem FlAt.rd (h:FlAt w0 w S0 S lvl i a ts g cap cur ev) (hS:∀ q,S0 q→q < w0.heap.size):Rd kdNd w S0 (.slice (some ⟨g,0,none⟩) (i.length+1) cap) ((i++[a]).map (mkN lvl)) ∧
  ∃ t:NT,t.e.v=ev∧kdNd.con t=mkN lvl a∧kdNd.ok w S0 t∧kdNd.cs t=lastC lvl ev:=by
 have hrow:Rd kdEn w S0 ev a:=h.row.rd h.inc fun q hq hq2=>by have:=h.newe q hq; have:=hS q hq2; omega
 obtain ⟨ea,ec,he,_⟩:=hrow.shape
 have ht:∃ t:NT,t.e.v=ev∧kdNd.con t=mkN lvl a∧kdNd.ok w S0 t∧kdNd.cs t=lastC lvl ev:=by
  rw [he] at hrow
  refine ⟨⟨⟨ea,a.length,ec⟩,⟨none,0,0⟩,mkN lvl a⟩,he.symm,rfl,⟨hrow,Bsf.nil _ _⟩,?_⟩
  rw [he]
  rfl
 refine ⟨?_,ht⟩
 obtain ⟨t,e1,e2,e3,e4⟩:=ht
 have hl:((i++[a]).map (mkN lvl)).length=i.length+1:=by simp
 have hc:kdNd.cells (ts++[t])=kdNd.cells ts++lastC lvl ev:=by rw [kdNd.cells_append, ← e4]; simp [Kd.cells]
 have htl:=h.tlen
 refine ⟨ts++[t],?_,⟨some ⟨g,0,none⟩,cap,by rw [hl],by rw [hl]; exact h.cap1,h.cap2,(fun h=>by cases h),?_,fun ad had j u hu=>?_⟩,fun t' ht'=>?_,fun _ q hq hq2=>?_⟩
 ·rw [List.map_append,List.map_append,h.con,List.map_singleton,List.map_singleton,e2]
 ·rw [kdNd.cells_length,hl,List.length_append,htl]
  rfl
 ·cases had
  rw [Addr.add_lit,Nat.zero_add]
  rw [hc] at hu
  exact h.cellj hu
 ·rcases List.mem_append.1 ht' with h1 | h1
  ·exact kdNd.less (h.ok t' h1) h.inc
  ·rw [List.mem_singleton.1 h1]
   exact e3
 ·cases hq
  have:=h.newg
  have:=hS g hq2
  omega
theorem fill_push {lv:Value} {Ls:List (List En)} (h:FillR w0 w S0 X lvl lv Ls) (hS:∀ q,S0 q→q < w0.heap.size) (hX:∀ q,X q→q < w.heap.size∧¬ S0 q) (hn:Ls.length≤1000000) {xb:Nat} (hx:∀ (j:Nat) (u:Value),(lastC lvl (.slice none 0 0))[j]? = some u→w.cell? ⟨xb,j,none⟩=some u) :
  ∃ v' w',(Builtin.append_ #[204,204] 204 #[lv, .slice (some ⟨xb,0,none⟩) 1 1]).run Tryz.prog w = .ok v' w'∧FillR w0 w' S0 X lvl v' (Ls++[[]])∧Below w0.heap.size w0 w'∧(∀ q,q < w.heap.size→lv.ownBlock≠some q→w'.heap[q]? = w.heap[q]?)∧w.heap.size≤w'.heap.size:=by
 obtain ⟨hb,hc⟩:=h
 obtain ⟨inf,z,hi,hz,hsz,hzs,hby⟩:=nod_ty.info
 obtain ⟨S,ts,hown,hcon,hok,hmore,hinc,hlt,hnew,hXS⟩:∃ (S:Nat→Prop) (ts:List NT),w.ownsRow 0 179 4 lv Ls.length (kdNd.cells ts)∧ts.map kdNd.con=Ls.map (mkN lvl)∧(∀ t∈ts,kdNd.ok w S t)∧(∀ q,S q→S0 q∨w0.heap.size≤q) ∧
   (∀ q,S0 q→S q)∧(∀ q,S q→q < w.heap.size)∧(∀ q,lv.ownBlock=some q→S q∧w0.heap.size≤q)∧∀ q,X q→¬ S q:=by
  rcases hc with ⟨rfl,rfl⟩ | ⟨S,i,a,ts,g,cap,cur,ev,rfl,rfl,h,hx4⟩
  ·exact ⟨S0,[],World.ownsRow_nil _ _ _ _,rfl,(fun _ h=>by cases h),fun q hq=>.inl hq,fun _ h=>h,fun q hq=>Nat.lt_of_lt_of_le (hS q hq) hb.size,(fun q h=>by cases h),fun q hq=>(hX q hq).2⟩
  ·obtain ⟨_,t,e1,e2,e3,e4⟩:=h.rd hS
   have hc:kdNd.cells (ts++[t])=kdNd.cells ts++lastC lvl ev:=by rw [kdNd.cells_append, ← e4]; simp [Kd.cells]
   have hrow:Rd kdEn w (fun q=>S q∧ev.ownBlock≠some q) ev a:=h.row.rd (fun q hq=>hq.1) (fun q hq hq2=>hq2.2 hq)
   obtain ⟨ea,ec,he,_⟩:=hrow.shape
   refine ⟨fun q=>S q∧ev.ownBlock≠some q,ts++[⟨⟨ea,a.length,ec⟩,⟨none,0,0⟩,mkN lvl a⟩],⟨?_, .inr ⟨g,cap,cur,by simp,Nat.zero_le _,h.blk,by simp; exact h.cap1,h.cap2,h.sz,?_⟩⟩,?_,fun t' ht'=>?_,fun q hq=>h.more q hq.1,fun q hq=>⟨h.inc q hq,fun e=>by have:=h.newe q e; have:=hS q hq; omega⟩,fun q hq=>h.lt q hq.1,fun q hq=>?_,fun q hq hs=>hx4 q hq hs.1⟩
   ·rw [kdNd.cells_length,List.length_append,List.length_append,h.tlen]
    rfl
   ·rw [List.length_append,List.length_singleton,h.cells,kdNd.cells_append,he]
    rfl
   ·rw [List.map_append,List.map_append,h.con]
    rfl
   ·rcases List.mem_append.1 ht' with h1 | h1
    ·exact kdNd.less (h.ok t' h1) fun q hq=>hq.1
    ·rw [List.mem_singleton.1 h1]
     exact ⟨(congrArg (fun v=>Rd kdEn w (fun q=>S q∧ev.ownBlock≠some q) v a) he).mp hrow,Bsf.nil _ _⟩
   ·cases hq
    exact ⟨⟨h.gS,h.ne⟩,h.newg⟩
 have hb63:(Ls.length+1)*inf.bytes≤140737488355328:=Nat.le_trans (Nat.mul_le_mul (show Ls.length+1≤1000001 by omega) hby) (by decide)
 obtain ⟨v',w',hr,ho,hg,hnil,hloc⟩:=run_append_own_at (P:=Tryz.prog) (w:=w) 0 204 204 179 inf z 4 inf.bytes nod_ty.slice hi hz hsz rfl hzs (by decide) lv Ls.length (kdNd.cells ts) hown ⟨xb,0,none⟩ 1 1 (lastC lvl (.slice none 0 0)) rfl
  (fun j u hu=>by rw [Addr.add_lit,Nat.zero_add]; exact hx j u hu) (fun u hu=>by simp only [lastC,List.mem_cons,List.not_mem_nil,or_false] at hu; rcases hu with rfl | rfl | rfl | rfl <;> rfl) (by unfold maxLen; omega) hb63 (Nat.zero_le _)
 have hst:=step_own hg (fun q hq=>(hnew q hq).1) hloc
 have hvn:∀ q,v'.ownBlock=some q→w0.heap.size≤q:=fun q hq=>by
  rcases hloc with e | e
  ·exact (hnew q (e ▸ hq)).2
  ·rw [e] at hq
   cases hq
   exact hb.size
 have hbel:Below w0.heap.size w0 w':=by
  refine ⟨hg.os.trans hb.os,hg.tape.trans hb.tape,hg.output.trans hb.output,Nat.le_trans hb.size hg.size,fun k hk=>(hg.block k (Nat.lt_of_lt_of_le hk hb.size) fun e=>?_).trans (hb.block k hk)⟩
  have:=(hnew k e.symm).2
  omega
 refine ⟨v',w',hr,⟨hbel, .inr ?_⟩,hbel,fun q hq hne=>hg.block q hq fun e=>hne e.symm,hg.size⟩
 rcases ho.2 with ⟨_,h0⟩ | ⟨g,cap,cur,rfl,_,hblk,h1,h2,h3,h4⟩
 ·omega
 ·refine ⟨Sv S (.slice (some ⟨g,0,none⟩) (Ls.length+1) cap),Ls,[],ts,g,cap,cur, .slice none 0 0,rfl,rfl,?_,fun q hq hs=>?_⟩
  rotate_left
  ·rcases hs with h5 | h5
   ·exact hXS q hq h5
   ·rcases hloc with e | e
    ·exact hXS q hq (hnew q (e ▸ h5)).1
    ·rw [e] at h5
     cases h5
     have:=(hX _ hq).1
     omega
  exact {
   more:=fun q hq=>hq.elim (hmore q) (fun e=>.inr (hvn q e)),inc:=fun q hq=>.inl (hinc q hq),con:=hcon,ok:=fun t ht=>kdNd.step (hok t ht) hst,blk:=hblk,cap1:=h1,cap2:=h2,sz:=h3
   cells:=h4,row:=Ro.nil _ _ _ _,gS:=.inr rfl,ne:=(fun e=>by cases e),newg:=hvn g rfl,newe:=(fun q e=>by cases e)
   lt:=fun q hq=>hq.elim (fun h=>Nat.lt_of_lt_of_le (hlt q h) hg.size) (fun e=>by cases e; exact (Array.getElem?_eq_some_iff.1 hblk).1) }
theorem FlAt.put {v':Value} {w2:World} {e:En} (h:FlAt w0 w S0 S lvl i a ts g cap cur ev) (hro:Ro kdEn 197 w2 (Sv S v') v' (a++[e])) (hst:Step S w w2 (Sv S v')) (hgr:w.grownBy w2 ev.ownBlock) (hlo:v'.ownBlock=ev.ownBlock∨v'.ownBlock=some w.heap.size)
  (hb:Below w0.heap.size w0 w) :
  ∃ cur',FlAt w0 (w2.setCell ⟨g,i.length*4+2,none⟩ v') S0 (Sv S v') lvl i (a++[e]) ts g cap cur' v'∧Below w0.heap.size w0 (w2.setCell ⟨g,i.length*4+2,none⟩ v'):=by
 have hg:g < w.heap.size:=h.lt g h.gS
 have hg2:w2.heap[g]? = some (.cells cur 179 (0,0)):=(hgr.block g hg fun e=>h.ne e.symm).trans h.blk
 have hvne:v'.ownBlock≠some g:=fun e=>by
  rcases hlo with h1 | h1
  ·exact h.ne (h1 ▸ e)
  ·rw [h1] at e
   cases e
   omega
 have hvn:∀ q,v'.ownBlock=some q→w0.heap.size≤q:=fun q hq=>by
  rcases hlo with h1 | h1
  ·exact h.newe q (h1 ▸ hq)
  ·rw [h1] at hq
   cases hq
   exact hb.size
 have hset:Step (Sv S v') w2 (w2.setCell ⟨g,i.length*4+2,none⟩ v') (Sv S v'):=(Step.refl _ _).set (p:=⟨g,i.length*4+2,none⟩) (.inl h.gS) v'
 have hcl:(kdNd.cells ts).length=i.length*4:=by rw [kdNd.cells_length,h.tlen]; rfl
 refine ⟨cur.setIfInBounds (i.length*4+2) v', {
  more:=fun q hq=>hq.elim (h.more q) (fun e=>.inr (hvn q e)),inc:=fun q hq=>.inl (h.inc q hq),con:=h.con,ok:=fun t ht=>kdNd.step (kdNd.step (h.ok t ht) hst) hset,blk:=by rw [Lib.heap_setCell_same hg2],cap1:=h.cap1,cap2:=h.cap2,sz:=by simpa using h.sz
  cells:=?_,row:=hro.keep (fun q hq=>Below.heap_setCell _ _ _ _ (fun e=>hvne (by rw [hq]; exact congrArg some e))) hset (fun _ h=>h),gS:=.inl h.gS,ne:=hvne,newg:=h.newg,newe:=hvn
  lt:=fun q hq=>by
   have h2:q < w2.heap.size:=hq.elim (fun h1=>Nat.lt_of_lt_of_le (h.lt q h1) hgr.size) (fun h1=>hro.own h1)
   simpa [World.setCell] using h2 },?_⟩
 ·rw [Array.toList_setIfInBounds,List.take_set,h.cells,List.set_append_right _ _ (by omega),hcl,show i.length*4+2-i.length*4=2 by omega]
  rfl
 ·refine Below.setCell (p:=⟨g,i.length*4+2,none⟩) ⟨hgr.os.trans hb.os,hgr.tape.trans hb.tape,hgr.output.trans hb.output,Nat.le_trans hb.size hgr.size,fun k hk=>(hgr.block k (Nat.lt_of_lt_of_le hk hb.size) fun e=>?_).trans (hb.block k hk)⟩ h.newg v'
  have:=h.newe k e.symm
  omega
theorem FlAt.share {b:List En} {k:Nat} (h:FlAt w0 w S0 S lvl (i++[a]) b ts g cap cur ev) (hS:∀ q,S0 q→q < w0.heap.size) (hb0:Below w0.heap.size w0 w) (hk:a.length=k+1) :
  ∃ ea ec,w.cell? ⟨g,i.length*4+2,none⟩=some (.slice ea (k+1) ec)∧Rd kdEn w (fun q=>S q∧ev.ownBlock≠some q) (.slice ea (k+1) ec) a∧Rd kdEn w (fun q=>S q∧ev.ownBlock≠some q) ev b ∧
   ∀ v w1,Below w.heap.size w w1→Rd kdEn w1 (fun q=>S q∧ev.ownBlock≠some q) v (a.drop k++b) →
    Rd kdNd ((w1.setCell ⟨g,i.length*4+4+2,none⟩ v).setCell ⟨g,i.length*4+2,none⟩ (.slice ea k ec)) S0 (.slice (some ⟨g,0,none⟩) ((i++[a]).length+1) cap) ((i++[a.take k,a.drop k++b]).map (mkN lvl)) ∧
    Below w0.heap.size w0 ((w1.setCell ⟨g,i.length*4+4+2,none⟩ v).setCell ⟨g,i.length*4+2,none⟩ (.slice ea k ec)):=by
 have hcon:=h.con
 rw [List.map_append,List.map_singleton] at hcon
 obtain ⟨ts0,tl,rfl,hc0,hc1⟩:=List.map_eq_append_iff.1 hcon
 obtain ⟨t0,rfl,hc2⟩:∃ t0,tl=[t0]∧kdNd.con t0=mkN lvl a:=by
  rcases tl with _ | ⟨t0,_ | ⟨t1,r⟩⟩
  ·cases hc1
  ·exact ⟨t0,rfl,by simpa using hc1⟩
  ·simp at hc1
 have hS1:∀ q,S0 q→S q∧ev.ownBlock≠some q:=fun q hq=>⟨h.inc q hq,fun e=>by have:=h.newe q e; have:=hS q hq; omega⟩
 have hok0:=h.ok t0 (by simp)
 obtain ⟨⟨ea,e1,ec⟩,tt,n0⟩:=t0
 have hc2:n0=mkN lvl a:=hc2
 subst hc2
 have hra:Rd kdEn w S (.slice ea e1 ec) a:=hok0.1
 obtain ⟨_,_,hsh,_⟩:=hra.shape
 simp only [Value.slice.injEq] at hsh
 obtain ⟨-,rfl, -⟩:=hsh
 have hl0:ts0.length=i.length:=by have:=congrArg List.length hc0; simpa using this
 have hcl:(kdNd.cells ts0).length=i.length*4:=by rw [kdNd.cells_length,hl0]; rfl
 have hcells:=h.cells
 have e0:kdNd.cells (ts0++[⟨⟨ea,a.length,ec⟩,tt,mkN lvl a⟩])++lastC lvl ev=kdNd.cells ts0++[.int .i64 0, .int .i64 (lvl:Nat), .slice ea a.length ec,tt.v, .int .i64 0, .int .i64 (lvl:Nat),ev, .slice none 0 0]:=by
  rw [kdNd.cells_append,List.append_assoc]
  rfl
 rw [e0] at hcells
 have hrow:Rd kdEn w (fun q=>S q∧ev.ownBlock≠some q) ev b:=h.row.rd (fun q hq=>hq.1) (fun q hq hq2=>hq2.2 hq)
 have hcell2:w.cell? ⟨g,i.length*4+2,none⟩=some (.slice ea a.length ec):=by
  refine h.cellj ?_
  rw [e0,List.getElem?_append_right (by omega),hcl,show i.length*4+2-i.length*4=2 by omega]
  rfl
 rw [hk] at hcell2 hra
 refine ⟨ea,ec,hcell2,hra.less fun q hq=>hq.1,hrow,fun v w1 hb1 hv=>?_⟩
 have hg:=h.lt g h.gS
 have hblk1:w1.heap[g]? = some (.cells cur 179 (0,0)):=(hb1.block g hg).trans h.blk
 obtain ⟨va,vc,rfl,_⟩:=hv.shape
 have hst:Step (fun q=>S q∧ev.ownBlock≠some q) w ((w1.setCell ⟨g,i.length*4+4+2,none⟩ (.slice va (a.drop k++b).length vc)).setCell ⟨g,i.length*4+2,none⟩ (.slice ea k ec)) (fun q=>S q∧ev.ownBlock≠some q) :=
  ((Step.of_below hb1 _).set (p:=⟨g,i.length*4+4+2,none⟩) ⟨h.gS,h.ne⟩ _).set (p:=⟨g,i.length*4+2,none⟩) ⟨h.gS,h.ne⟩ _
 have hst1:Step (fun q=>S q∧ev.ownBlock≠some q) w1 ((w1.setCell ⟨g,i.length*4+4+2,none⟩ (.slice va (a.drop k++b).length vc)).setCell ⟨g,i.length*4+2,none⟩ (.slice ea k ec)) (fun q=>S q∧ev.ownBlock≠some q) :=
  ((Step.refl _ _).set (p:=⟨g,i.length*4+4+2,none⟩) ⟨h.gS,h.ne⟩ _).set (p:=⟨g,i.length*4+2,none⟩) ⟨h.gS,h.ne⟩ _
 refine ⟨⟨ts0++[⟨⟨ea,k,ec⟩,tt,mkN lvl (a.take k)⟩,⟨⟨va,(a.drop k++b).length,vc⟩,⟨none,0,0⟩,mkN lvl (a.drop k++b)⟩],?_,⟨some ⟨g,0,none⟩,cap,by simp,by have:=h.cap1; simpa using this,h.cap2,(fun h=>by cases h),?_,fun ad had j u hu=>?_⟩,fun t ht=>?_,fun _ q hq hq2=>?_⟩,?_⟩
 ·rw [List.map_append,hc0,List.map_append]
  rfl
 ·rw [kdNd.cells_length,List.length_append,hl0]
  simp
 ·cases had
  rw [Addr.add_lit,Nat.zero_add]
  have e1:kdNd.cells (ts0++[⟨⟨ea,k,ec⟩,tt,mkN lvl (a.take k)⟩,⟨⟨va,(a.drop k++b).length,vc⟩,⟨none,0,0⟩,mkN lvl (a.drop k++b)⟩]) =
    kdNd.cells ts0++[.int .i64 0, .int .i64 (lvl:Nat), .slice ea k ec,tt.v, .int .i64 0, .int .i64 (lvl:Nat), .slice va (a.drop k++b).length vc, .slice none 0 0]:=by
   rw [kdNd.cells_append]
   rfl
  have e2:((cur.setIfInBounds (i.length*4+4+2) (.slice va (a.drop k++b).length vc)).setIfInBounds (i.length*4+2) (.slice ea k ec)).toList.take (((i++[a]).length+1)*4) =
    kdNd.cells ts0++[.int .i64 0, .int .i64 (lvl:Nat), .slice ea k ec,tt.v, .int .i64 0, .int .i64 (lvl:Nat), .slice va (a.drop k++b).length vc, .slice none 0 0]:=by
   rw [Array.toList_setIfInBounds,Array.toList_setIfInBounds,List.take_set,List.take_set,hcells,List.set_append_right _ _ (by omega),List.set_append_right _ _ (by omega),hcl,show i.length*4+4+2-i.length*4=6 by omega,show i.length*4+2-i.length*4=2 by omega]
   rfl
  rw [e1, ← e2,List.getElem?_take] at hu
  split at hu
  ·have hb2:((w1.setCell ⟨g,i.length*4+4+2,none⟩ (.slice va (a.drop k++b).length vc)).setCell ⟨g,i.length*4+2,none⟩ (.slice ea k ec)).heap[g]? = some (.cells ((cur.setIfInBounds (i.length*4+4+2) (.slice va (a.drop k++b).length vc)).setIfInBounds (i.length*4+2) (.slice ea k ec)) 179 (0,0)) :=
    Lib.heap_setCell_same (Lib.heap_setCell_same hblk1 _) _
   simp only [World.cell?,hb2]
   rw [← Array.getElem?_toList]
   exact hu
  ·cases hu
 ·simp only [List.mem_append,List.mem_cons,List.not_mem_nil,or_false] at ht
  rcases ht with ht | rfl | rfl
  ·exact kdNd.less (kdNd.step (kdNd.less (h.ok t (by simp [ht])) (fun q hq=>hq.1)) hst) hS1
  ·refine ⟨?_,(hok0.2.step (S':=fun q=>S q∧ev.ownBlock≠some q) ⟨Only.refl _ _,fun q hq=>.inl hq.1⟩).step hst |> fun hh=>hh.step (S':=S0) ⟨Only.refl _ _,fun q hq=>.inl (hS1 q hq)⟩⟩
   have:=(hra.upto k (by omega)).less (S':=fun q=>S q∧ev.ownBlock≠some q) (fun q hq=>hq.1)
   exact (this.step hst).less hS1
  ·exact ⟨(hv.step hst1).less hS1,Bsf.nil _ _⟩
 ·cases hq
  have:=h.newg
  have:=hS g hq2
  omega
 ·exact ((hb0.trans (hb1.mono hb0.size)).setCell (p:=⟨g,i.length*4+4+2,none⟩) h.newg _).setCell (p:=⟨g,i.length*4+2,none⟩) h.newg _
end
end Go.Proofs.YtgkofgifoiinkaaGreat
