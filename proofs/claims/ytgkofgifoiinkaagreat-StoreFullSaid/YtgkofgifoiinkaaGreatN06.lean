/- May these be a node's entries: the walk of may; condition: what is handed in lies in memory. -/
import Derived.Test.YtgkofgifoiinkaaGreatN05
import Derived.Test.YtgkofgifoiinkaaGreatN04
import Derived.Test.YtgkofgifoiinkaaGreatN01
namespace Go.Proofs.YtgkofgifoiinkaaGreat
open Go.RowKit
theorem noughts_step (l:List UInt8) (r:Nat) (x:UInt8) (hx:l[r]? = some x):noughtsB (l.take (r+1))=(noughtsB (l.take r) && (x == 0)):=by
 rw [List.take_add_one,hx]
 simp [noughtsB]
set_option maxHeartbeats 400000 in
theorem noughts_any {b:Value} {l:List UInt8} (w:World) (hb:Bs w b l) :
  Calls Tryz.prog 164 #[b] w fun e w'=>e = .returned (.bool (noughtsB l))∧w=w':=by
 obtain ⟨a,cap,rfl,hb⟩:=hb.shape
 have hlen:=hb.len
 go_enter Tryz.func164,Tryz.ntmps164
 go_wp2
 go_loopw [4,7] (fun _ i wr=>∃ r:Nat,r≤l.length∧i = .int .i64 r∧noughtsB (l.take r)=true∧w=wr) (fun _ i _=>l.length-(intOf i).toNat)
 case atStart=>exact ⟨0,by omega,rfl,rfl,rfl⟩
 case round =>
  obtain ⟨r,hr,rfl,hn,rfl⟩:=hrel
  by_cases hlt:r < l.length
  ·obtain ⟨b0,o0,cap0,e0,q0,hb0,hcells⟩:=hb.open (by omega)
   simp only [Value.slice.injEq] at e0
   obtain ⟨rfl, -,rfl⟩:=e0
   obtain ⟨x,hx⟩:∃ x,l[r]? = some x:=⟨_,List.getElem?_eq_getElem hlt⟩
   have hcell:=hcells r x hx
   have hst:=noughts_step l r x hx
   rw [hn,Bool.true_and] at hst
   by_cases h0:x=0
   ·subst h0
    have H:=Lib.hid (anZ hst hx)
    clear hst hx hn hcells
    rw [show ((0:UInt8).toNat:Int)=0 from rfl] at hcell
    go_wp2
    go_roundw
    case rel=>exact ⟨r+1,by omega,by go_num,by rw [H.out.1]; rfl,by trivial⟩
    case measure=>simp [intOf]; omega
   ·have hne:¬ (x.toNat:Int)=0:=fun h=>h0 (UInt8.toNat_inj.1 (by rw [show (0:UInt8).toNat=0 from rfl]; omega))
    have hf:noughtsB l=false:=by
     have h1:(x == 0)=false:=by simpa using h0
     rw [h1] at hst
     unfold noughtsB at hst ⊢
     rw [List.all_eq_false] at hst ⊢
     obtain ⟨y,hy,hy2⟩:=hst
     exact ⟨y,List.mem_of_mem_take hy,hy2⟩
    have HF:=Lib.hid hf
    clear hst hx hn hcells hf h0
    go_wp2
    go_ret
    exact ⟨ret_bool HF.out.symm,rfl⟩
  ·obtain rfl:r=l.length:=by omega
   rw [List.take_length] at hn
   have HF:=Lib.hid hn
   clear hn
   go_wp2
   go_ret
   exact ⟨ret_bool HF.out.symm,rfl⟩
def Opens (w:World) (l:List UInt8) (e:Ending) (w':World):Prop :=
 ∃ v,e = .returned (.tuple #[.int .u8 ((openV l).1.toNat:Int),v, .int .i64 (openV l).2.2])∧Ow w' w.heap.size 5 v (openV l).2.1∧Below w.heap.size w w'
theorem opens_spoilt {w w':World} {l:List UInt8} (h:¬ (l.length=512∧rightB l=true)) (hb:Below w.heap.size w w'):Opens w l (.returned (.tuple #[.int .u8 0, .slice none 0 0, .int .i64 9])) w':=by
 unfold Opens
 rw [openV_spoilt h]
 exact ⟨_,rfl,World.ownsRow_nil _ _ _ _,hb⟩
theorem opens_bad {w w':World} {l:List UInt8} (h:l.length=512∧rightB l=true) (ho:¬ openOk l=true) (hb:Below w.heap.size w w'):Opens w l (.returned (.tuple #[.int .u8 0, .slice none 0 0, .int .i64 5])) w':=by
 unfold Opens
 rw [openV_bad h ho]
 exact ⟨_,rfl,World.ownsRow_nil _ _ _ _,hb⟩
set_option maxHeartbeats 400000 in
theorem blkOpen_short {b:Value} {l:List UInt8} (w:World) (hb:Bs w b l) (h:l.length≠512):Calls Tryz.prog 123 #[b] w (Opens w l):=by
 obtain ⟨a,cap,rfl,hb⟩:=hb.shape
 have fin:=Lib.hid (fun (w':World) (hb:Below w.heap.size w w')=>opens_spoilt (l:=l) (fun q=>h q.1) hb)
 have hne:((l.length:Int) != 512)=true:=by simp; omega
 clear h
 go_enter Tryz.func123,Tryz.ntmps123
 go_wp2
 go_ret3
 exact fin.out _ (Below.refl _ _)
set_option maxHeartbeats 400000 in
theorem blkOpen_wrong {b:Value} {l:List UInt8} (w:World) (hb:Bs w b l) (h:l.length=512) (hr:rightB l=false):Calls Tryz.prog 123 #[b] w (Opens w l):=by
 have fin:=Lib.hid (fun (w':World) (hb:Below w.heap.size w w')=>opens_spoilt (l:=l) (fun q=>by rw [hr] at q; cases q.2) hb)
 have HR:=Lib.hid hr
 clear hr
 obtain ⟨a,cap,rfl,hb⟩:=hb.shape
 have e:(Value.slice a l.length cap) = .slice a 512 cap:=by rw [h]
 rw [e] at hb ⊢
 clear e h
 go_enter Tryz.func123,Tryz.ntmps123
 go_wp2_with fail
 refine (right_any _ hb).mono ?_
 rintro e w1 ⟨he,n,hw⟩
 rw [HR.out] at he
 subst he
 have b1:Below w.heap.size w w1:=by rw [hw]; exact below_drewN (Below.refl _ _) n
 clear hw
 go_wp2
 go_ret3
 exact fin.out _ b1
set_option maxHeartbeats 1000000 in
theorem blkOpen_right {b:Value} {l:List UInt8} (w:World) (hb:Bs w b l) (h:l.length=512) (hr:rightB l=true):Calls Tryz.prog 123 #[b] w (Opens w l):=by
 have HR:=Lib.hid hr
 have HS:=Lib.hid (anZ h hr)
 obtain ⟨x0,hx0⟩:∃ x,l[0]? = some x:=⟨_,List.getElem?_eq_getElem (by omega)⟩
 have hx0':l.getD 0 0=x0:=by rw [List.getD_eq_getElem?_getD,hx0]; rfl
 obtain ⟨b0,o0,cap,rfl,q0,hb0,hcells⟩:=hb.open (by omega)
 have hcell:=hcells 0 x0 hx0
 rw [Nat.add_zero] at hcell
 clear hr hx0 hcells
 have e:(Value.slice (some ⟨b0,o0,none⟩) l.length cap) = .slice (some ⟨b0,o0,none⟩) 512 cap:=by rw [h]
 rw [e] at hb ⊢
 clear e
 obtain ⟨v1,r1,s1⟩:=run_slice_to_bs bt w hb .i64 508 (by omega)
 rw [show ((508:Nat):Int)=508 from rfl] at r1
 have hl1:(l.take 508).length=508:=by simp; omega
 have hn0:tbN (l.take 508) 1=nOf l:=by
  unfold tbN nOf
  rw [show (1:Int).toNat=1 from rfl,List.drop_take,List.take_take]
  rfl
 have hmay:takeMay (l.take 508) 1 2:=⟨rfl,by decide,by rw [hl1]; decide⟩
 by_cases hn:nOf l≤505
 ·have hok:tbOk (l.take 508) 1:=⟨hmay,by rw [hl1,hn0]; omega⟩
  have hE:tbE (l.take 508) 1=0:=by unfold tbE; rw [if_pos hmay,if_pos hok]
  have hX:tbX (l.take 508) 1=((3+nOf l:Nat):Int):=by unfold tbX; rw [if_pos hok,hn0]; omega
  have hL:tbL (l.take 508) 1=(l.drop 3).take (nOf l):=by
   unfold tbL
   rw [if_pos hok,hn0,show (1:Int).toNat+2=3 from rfl,List.drop_take,List.take_take,Nat.min_eq_left (by omega)]
  obtain ⟨v2,r2,s2⟩:=run_slice_bs bt w hb .i64 .i64 (3+nOf l) 508 (by omega) (by omega)
  rw [show ((508:Nat):Int)=508 from rfl,Int.natCast_add,show ((3:Nat):Int)=3 from rfl] at r2
  rw [Int.natCast_add,show ((3:Nat):Int)=3 from rfl] at hX
  have HV:=Lib.hid (anZ hE (anZ hX hL))
  have hgood:openOk l=(x0 != 0 && noughtsB ((l.take 508).drop (3+nOf l))):=by
   unfold openOk
   rw [decide_eq_true hn,Bool.true_and,hx0']
  have hov:=fun (ho:openOk l=true)=>openV_good HS.out ho
  rw [hx0'] at hov
  have HG:=Lib.hid hgood
  have HO:=Lib.hid hov
  clear hok hE hX hL hgood hov hn0 hmay
  generalize hz:(l.take 508).drop (3+nOf l)=z at *
  generalize hbd:(l.drop 3).take (nOf l)=body at *
  generalize nOf l=n at *
  clear hz hbd hx0'
  by_cases h0:x0=0
  ·subst h0
   have hbad:¬ openOk l=true:=by rw [HG.out]; simp
   have fin:=Lib.hid (fun (w':World) (hb:Below w.heap.size w w')=>opens_bad HS.out hbad hb)
   rw [show ((0:UInt8).toNat:Int)=0 from rfl] at hcell
   clear hbad h
   go_enter Tryz.func123,Tryz.ntmps123
   go_wp2_with fail
   refine (right_any _ hb).mono ?_
   rintro e w1 ⟨he,m,hw⟩
   rw [HR.out] at he
   subst he
   have b1:Below w.heap.size w w1:=by rw [hw]; exact below_drewN (Below.refl _ _) m
   have s1':=s1.below b1
   clear hw
   go_wp2_with fail
   refine (takeBytes_any 1 _ s1' (by rw [hl1]; decide)).mono ?_
   rintro e w2 ⟨v3,he,o3,b2⟩
   rw [HV.out.1,HV.out.2.1] at he
   subst he
   have b2':=b1.trans (b2.mono b1.size)
   have hc2:=(b2'.cell (p:=⟨b0,o0,none⟩) (by exact hb0)).trans hcell
   clear o3 b2 b1
   go_wp2
   go_ret3
   exact fin.out _ b2'
  ·have hne:((x0.toNat:Int) == 0)=false:=by
    rw [beq_eq_false_iff_ne]
    exact fun h=>h0 (UInt8.toNat_inj.1 (by rw [show (0:UInt8).toNat=0 from rfl]; omega))
   have hx:(x0 != 0)=true:=by simpa using h0
   have hgd:openOk l=noughtsB z:=by rw [HG.out,hx,Bool.true_and]
   clear hx h0
   by_cases hz:noughtsB z=true
   ·have ho:openOk l=true:=by rw [hgd,hz]
    have hv:=HO.out ho
    have HZ:=Lib.hid hz
    have HW:=Lib.hid hv
    clear hz ho hgd hv h
    go_enter Tryz.func123,Tryz.ntmps123
    go_wp2_with fail
    refine (right_any _ hb).mono ?_
    rintro e w1 ⟨he,m,hw⟩
    rw [HR.out] at he
    subst he
    have b1:Below w.heap.size w w1:=by rw [hw]; exact below_drewN (Below.refl _ _) m
    have s1':=s1.below b1
    clear hw
    go_wp2_with fail
    refine (takeBytes_any 1 _ s1' (by rw [hl1]; decide)).mono ?_
    rintro e w2 ⟨v3,he,o3,b2⟩
    rw [HV.out.1,HV.out.2.1] at he
    subst he
    rw [HV.out.2.2] at o3
    have b2':=b1.trans (b2.mono b1.size)
    have hc2:=(b2'.cell (p:=⟨b0,o0,none⟩) (by exact hb0)).trans hcell
    have s2':=s2.below b2'
    have o3':=o3.mono b1.size
    clear o3 b2 b1 s1' s1
    go_wp2_with fail
    refine (noughts_any _ s2').mono ?_
    rintro e w3 ⟨he,rfl⟩
    rw [HZ.out] at he
    subst he
    go_wp2
    go_ret3
    refine ⟨v3,?_,?_,b2'⟩
    ·rw [HW.out]; rfl
    ·rw [HW.out]; exact o3'
   ·have hbad:¬ openOk l=true:=by rw [hgd]; exact hz
    have fin:=Lib.hid (fun (w':World) (hb:Below w.heap.size w w')=>opens_bad HS.out hbad hb)
    have HZ:=Lib.hid (show noughtsB z=false by simpa using hz)
    clear hbad hgd hz h
    go_enter Tryz.func123,Tryz.ntmps123
    go_wp2_with fail
    refine (right_any _ hb).mono ?_
    rintro e w1 ⟨he,m,hw⟩
    rw [HR.out] at he
    subst he
    have b1:Below w.heap.size w w1:=by rw [hw]; exact below_drewN (Below.refl _ _) m
    have s1':=s1.below b1
    clear hw
    go_wp2_with fail
    refine (takeBytes_any 1 _ s1' (by rw [hl1]; decide)).mono ?_
    rintro e w2 ⟨v3,he,o3,b2⟩
    rw [HV.out.1,HV.out.2.1] at he
    subst he
    have b2':=b1.trans (b2.mono b1.size)
    have hc2:=(b2'.cell (p:=⟨b0,o0,none⟩) (by exact hb0)).trans hcell
    have s2':=s2.below b2'
    clear o3 b2 b1 s1' s1
    go_wp2_with fail
    refine (noughts_any _ s2').mono ?_
    rintro e w3 ⟨he,rfl⟩
    rw [HZ.out] at he
    subst he
    go_wp2
    go_ret3
    exact fin.out _ b2'
 ·have hok:¬ tbOk (l.take 508) 1:=fun q=>by have:=q.2; rw [hl1,hn0] at this; omega
  have hE:tbE (l.take 508) 1=5:=by unfold tbE; rw [if_pos hmay,if_neg hok]
  have hX:tbX (l.take 508) 1=0:=by unfold tbX; rw [if_neg hok]
  have hbad:¬ openOk l=true:=by unfold openOk; rw [decide_eq_false hn]; simp
  have fin:=Lib.hid (fun (w':World) (hb:Below w.heap.size w w')=>opens_bad HS.out hbad hb)
  have HV:=Lib.hid (anZ hE hX)
  clear hok hE hX hbad hn hn0 hmay h hx0'
  go_enter Tryz.func123,Tryz.ntmps123
  go_wp2_with fail
  refine (right_any _ hb).mono ?_
  rintro e w1 ⟨he,m,hw⟩
  rw [HR.out] at he
  subst he
  have b1:Below w.heap.size w w1:=by rw [hw]; exact below_drewN (Below.refl _ _) m
  have s1':=s1.below b1
  clear hw
  go_wp2_with fail
  refine (takeBytes_any 1 _ s1' (by rw [hl1]; decide)).mono ?_
  rintro e w2 ⟨v3,he,o3,b2⟩
  rw [HV.out.1,HV.out.2] at he
  subst he
  have b2':=b1.trans (b2.mono b1.size)
  clear o3 b2 b1
  go_wp2
  go_ret3
  exact fin.out _ b2'
theorem blkOpen_any {b:Value} {l:List UInt8} (w:World) (hb:Bs w b l):Calls Tryz.prog 123 #[b] w (Opens w l):=by
 by_cases h:l.length=512
 ·rcases hr:rightB l with _ | _
  ·exact blkOpen_wrong w hb h hr
  ·exact blkOpen_right w hb h hr
 ·exact blkOpen_short w hb h
end Go.Proofs.YtgkofgifoiinkaaGreat
namespace Go.Proofs.YtgkofgifoiinkaaGreat
open Go.RowKit
def sealV (k:UInt8) (l:List UInt8):List UInt8 × Int:=if k=0 then ([],1) else if 505 < l.length then ([],6) else (sealL k l,0)
def Seals (w:World) (k:UInt8) (l:List UInt8) (e:Ending) (w':World):Prop :=
 ∃ v t,e = .returned (.tuple #[v, .int .i64 (sealV k l).2])∧Ow w' w.heap.size t v (sealV k l).1∧Below w.heap.size w w'
theorem blkSeal_any {b:Value} {l:List UInt8} (k:UInt8) (w:World) (hb:Bs w b l):Calls Tryz.prog 137 #[.int .u8 (k.toNat:Int),b] w (Seals w k l):=by
 unfold Seals sealV
 by_cases h0:k=0
 ·subst h0
  rw [if_pos rfl]
  refine (blkSeal_zero w hb).mono ?_
  rintro e w1 ⟨rfl,rfl⟩
  exact ⟨_,5,rfl,World.ownsRow_nil _ _ _ _,Below.refl _ _⟩
 ·rw [if_neg h0]
  by_cases hl:505 < l.length
  ·rw [if_pos hl]
   refine (blkSeal_many k w hb h0 hl).mono ?_
   rintro e w1 ⟨rfl,rfl⟩
   exact ⟨_,5,rfl,World.ownsRow_nil _ _ _ _,Below.refl _ _⟩
  ·rw [if_neg hl]
   refine (blkSeal_ok k w hb h0 (by omega)).mono ?_
   rintro e w1 ⟨v,he,ho,hbl⟩
   exact ⟨v,_,he,ho,hbl⟩
theorem Ow.own {w:World} {base:Nat} {e:TypeId} {v:Value} {l:List UInt8} (h:Ow w base e v l) {q:Nat} (hq:v.ownBlock=some q):base≤q∧q < w.heap.size:=World.ownsRow.lt h q hq
theorem Bs.old {w:World} {v:Value} {l:List UInt8} (h:Bs w v l) (hne:0 < l.length) {q:Nat} (hq:v.ownBlock=some q):q < w.heap.size:=by
 obtain ⟨b,o,cap,rfl,_,hb,_⟩:=h.open hne
 cases hq
 exact hb
theorem Bs.turned {w w0 w':World} {v x:Value} {l:List UInt8} (h:Bs w v l) (h0:Bs w0 v l) (ho:Only (fun k=>x.ownBlock=some k) w w') (hx:∀ q,x.ownBlock=some q→w0.heap.size≤q):Bs w' v l:=by
 rcases Nat.eq_zero_or_pos l.length with hl | hl
 ·obtain rfl:l=[]:=List.eq_nil_of_length_eq_zero hl
  obtain ⟨a,cap,rfl,h1,h2,h3,h4⟩:=h
  exact ⟨a,cap,rfl,h1,h2,h3,fun ad _ i u hu=>by simp [bvs] at hu⟩
 ·exact h.only ho fun q hq hs=>by
   have h1:=h0.old hl hq
   have h2:=hx q hs
   omega
end Go.Proofs.YtgkofgifoiinkaaGreat
namespace Go.Proofs.YtgkofgifoiinkaaGreat
open Go.RowKit
def takenV (l:Bytes) (p:Int) (lvl:Nat):Option (En × Int) :=
 if tbOk l p then
  if lvl=0 then (if tbOk l (p+2+tbN l p) then some (⟨tbL l p,tbL l (p+2+tbN l p),0⟩,p+2+tbN l p+2+tbN l (p+2+tbN l p)) else none)
  else (if takeMay l (p+2+tbN l p) 4∧4≤l.length-(p+2+tbN l p) then some (⟨tbL l p,[],takeN l (p+2+tbN l p) 4⟩,p+2+tbN l p+4) else none)
 else none
def Takens (w:World) (r:Option (En × Int)) (e:Ending) (w':World):Prop :=
 ∃ kv vv nx c en,e = .returned (.tuple #[.agg #[kv,vv, .int .i64 (en.page:Nat)], .int .i64 nx,err c])∧Ow w' w.heap.size 5 kv en.key∧Ow w' w.heap.size 5 vv en.val∧Below w.heap.size w w' ∧
  (match r with | some (en',nx')=>en=en'∧nx=nx'∧c=0 | none=>c≠0∧en.page=0)
theorem tbE_ne {l:Bytes} {p:Int} (h:¬ tbOk l p):tbE l p≠0:=by
 unfold tbE
 rw [if_neg h]
 split
 ·decide
 ·decide
theorem tbE_ok {l:Bytes} {p:Int} (h:tbOk l p):tbE l p=0∧tbX l p=p+2+tbN l p:=by
 unfold tbE tbX
 rw [if_pos h.1,if_pos h,if_pos h]
 exact ⟨rfl,rfl⟩
set_option maxHeartbeats 1000000 in
theorem taken_no {b:Value} {l:Bytes} (p:Int) (lvl:Nat) (w:World) (hb:Bs w b l) (hl:l.length≤1073741824) (h:¬ tbOk l p) :
  Calls Tryz.prog 206 #[b, .int .i64 p, .int .i64 (lvl:Int)] w (Takens w (takenV l p lvl)):=by
 unfold takenV
 rw [if_neg h]
 have he:=tbE_ne h
 have hb0:Below w.heap.size w (w.alloc (.cells #[.slice none 0 0, .slice none 0 0, .int .i64 0] 197)):=(Below.refl _ _).alloc (Nat.le_refl _) _
 have C0:Cel (w.alloc (.cells #[.slice none 0 0, .slice none 0 0, .int .i64 0] 197)) w.heap.size [.slice none 0 0, .slice none 0 0, .int .i64 0] 197:=Cel.new w _ _
 have T:=takeBytes_any p _ (hb.below hb0) hl
 have HH:=Lib.hid (anZ hb0 (anZ C0 he))
 have hbe:((tbE l p) == 0)=false:=by rw [beq_eq_false_iff_ne]; exact he
 have hbe2:¬ tbE l p=0:=he
 clear hb0 C0 h hb he
 go_enter Tryz.func206,Tryz.ntmps206
 go_wp2_with fail
 refine T.mono ?_
 rintro e w1 ⟨kv,rfl,ho,hb1⟩
 clear T
 have C1:=HH.out.2.1.below hb1 HH.out.2.1.lt
 have c0:w1.cell? ⟨w.heap.size,0,none⟩=some (.slice none 0 0):=C1.cell 0
 have c1:w1.cell? ⟨w.heap.size,1,none⟩=some (.slice none 0 0):=C1.cell 1
 have c2:w1.cell? ⟨w.heap.size,2,none⟩=some (.int .i64 0):=C1.cell 2
 have f0:=C1.frozen 0
 have f1:=C1.frozen 1
 have f2:=C1.frozen 2
 obtain ⟨ka,kc,rfl,_⟩:=ho.bs.shape
 generalize tbE l p=en at *
 generalize tbX l p=nx at *
 generalize tbL l p=m at *
 go_wp2
 obtain ⟨hb0,_,he⟩:=HH.out
 have hbw:=hb0.trans (hb1.mono (by simp))
 have C2:=(((C1.set 0 (.slice ka m.length kc)).set 0 (.slice none 0 0)).set 1 (.slice none 0 0)).set 2 (.int .i64 0)
 refine bodyPost_ret (results_cell3 (g:=w.heap.size) rfl rfl C2 Tryz.underlying197 rfl (by kernel_rfl)) rfl ⟨.slice none 0 0, .slice none 0 0,0,en,⟨[],[],0⟩,rfl,World.ownsRow_nil _ _ _ _,World.ownsRow_nil _ _ _ _,?_,he,rfl⟩
 exact (((hbw.setCell (p:=⟨w.heap.size,0,none⟩) (Nat.le_refl _) _).setCell (p:=⟨w.heap.size,0,none⟩) (Nat.le_refl _) _).setCell (p:=⟨w.heap.size,1,none⟩) (Nat.le_refl _) _).setCell (p:=⟨w.heap.size,2,none⟩) (Nat.le_refl _) _
theorem ow_keep {w w':World} {base:Nat} {e:TypeId} {v:Value} {l:Bytes} (h:Ow w base e v l) (hk:∀ q,v.ownBlock=some q→w'.heap[q]? = w.heap[q]?):Ow w' base e v l:=ownsRow_kept h hk
theorem ow_off {w:World} {base g:Nat} {e:TypeId} {v:Value} {l:Bytes} {i:Nat} {u:Value} (h:Ow w base e v l) (hg:g < base):Ow (w.setCell ⟨g,i,none⟩ u) base e v l :=
 ow_keep h fun q hq=>Below.heap_setCell _ _ _ _ (fun e=>by have:=(World.ownsRow.lt h q hq).1; simp at e; omega)
theorem ow_at4 {w:World} {g:Nat} {e:TypeId} {v:Value} {l:Bytes} {i j k m:Nat} {a b c d:Value} (h:Ow w (g+1) e v l) :
  Ow ((((w.setCell ⟨g,i,none⟩ a).setCell ⟨g,j,none⟩ b).setCell ⟨g,k,none⟩ c).setCell ⟨g,m,none⟩ d) g e v l :=
 (ow_off (ow_off (ow_off (ow_off h (Nat.lt_succ_self _)) (Nat.lt_succ_self _)) (Nat.lt_succ_self _)) (Nat.lt_succ_self _)).mono (Nat.le_succ _)
set_option maxHeartbeats 1000000 in
theorem taken_pair {b:Value} {l:Bytes} (p:Int) (w:World) (hb:Bs w b l) (hl:l.length≤1073741824) (h:tbOk l p) :
  Calls Tryz.prog 206 #[b, .int .i64 p, .int .i64 0] w (Takens w (takenV l p 0)):=by
 generalize hR:takenV l p 0=R
 unfold takenV at hR
 rw [if_pos h,if_pos rfl] at hR
 obtain ⟨e1,e2⟩:=tbE_ok h
 have hb0:Below w.heap.size w (w.alloc (.cells #[.slice none 0 0, .slice none 0 0, .int .i64 0] 197)):=(Below.refl _ _).alloc (Nat.le_refl _) _
 have z0:(w.alloc (.cells #[.slice none 0 0, .slice none 0 0, .int .i64 0] 197)).heap.size=w.heap.size+1:=by simp
 have C0:Cel (w.alloc (.cells #[.slice none 0 0, .slice none 0 0, .int .i64 0] 197)) w.heap.size [.slice none 0 0, .slice none 0 0, .int .i64 0] 197:=Cel.new w _ _
 have T:=takeBytes_any p _ (hb.below hb0) hl
 unfold TakesB at T
 rw [e1,e2] at T
 have HH:=Lib.hid (anZ hb0 (anZ C0 (anZ hb z0)))
 have HR:=Lib.hid hR
 clear hb0 C0 h hb e1 e2 z0 hR
 go_enter Tryz.func206,Tryz.ntmps206
 go_wp2_with fail
 refine T.mono ?_
 rintro e w1 ⟨kv,rfl,ho,hb1⟩
 clear T
 obtain ⟨hb0,C0,hb,z0⟩:=HH.out
 have C1:=C0.below hb1 C0.lt
 have c0:w1.cell? ⟨w.heap.size,0,none⟩=some (.slice none 0 0):=C1.cell 0
 have f0:=C1.frozen 0
 have f1:=C1.frozen 1
 have f2:=C1.frozen 2
 obtain ⟨ka,kc,rfl,_⟩:=ho.bs.shape
 have hbw:=hb0.trans (hb1.mono (by simp))
 have C2:=C1.set 0 (.slice ka (tbL l p).length kc)
 have hb2:=hbw.setCell (p:=⟨w.heap.size,0,none⟩) (Nat.le_refl _) (.slice ka (tbL l p).length kc)
 have ho2:=ow_off (i:=0) (u:=.slice ka (tbL l p).length kc) ho (show w.heap.size < (w.alloc (.cells #[.slice none 0 0, .slice none 0 0, .int .i64 0] 197)).heap.size by omega)
 have T:=takeBytes_any (p+2+tbN l p) _ (hb.below hb2) hl
 have hz2:w.heap.size < (w1.setCell ⟨w.heap.size,0,none⟩ (.slice ka (tbL l p).length kc)).heap.size:=C2.lt
 have H1:=Lib.hid (anZ C2 (anZ hb2 (anZ ho2 hz2)))
 clear hb0 C0 hb z0 C1 hbw C2 hb2 ho2 ho hb1 hz2
 generalize tbL l p=m at *
 generalize p+2+(tbN l p:Int)=p1 at *
 go_wp2_with fail
 refine T.mono ?_
 rintro e w2 ⟨vv,rfl,hov,hb3⟩
 clear T
 obtain ⟨C2,hb2,ho2,hz2⟩:=H1.out
 have C3:=C2.below hb3 hz2
 have c0:w2.cell? ⟨w.heap.size,0,none⟩=some (.slice ka m.length kc):=C3.cell 0
 have c1:w2.cell? ⟨w.heap.size,1,none⟩=some (.slice none 0 0):=C3.cell 1
 have c2:w2.cell? ⟨w.heap.size,2,none⟩=some (.int .i64 0):=C3.cell 2
 have f0:=C3.frozen 0
 have f1:=C3.frozen 1
 have f2:=C3.frozen 2
 obtain ⟨va,vc,rfl,_⟩:=hov.bs.shape
 have hb4:=hb2.trans (hb3.mono (Nat.le_of_lt hz2))
 have ho3:=(ho2.below hb3).mono (show w.heap.size+1≤(w.alloc (.cells #[.slice none 0 0, .slice none 0 0, .int .i64 0] 197)).heap.size by simp)
 have H2:=Lib.hid (anZ C3 (anZ hb4 (anZ (hov.mono (show w.heap.size+1≤_ from hz2)) ho3)))
 have hz3:w.heap.size < w2.heap.size:=C3.lt
 have H3:=Lib.hid (anZ (show tbOk l p1→tbX l p1=p1+2+tbN l p1∧tbE l p1=0 from fun h=>⟨(tbE_ok h).2,(tbE_ok h).1⟩) (show ¬ tbOk l p1→tbE l p1≠0 from tbE_ne))
 clear C2 hb2 ho2 hz2 C3 hb3 hov hb4 ho3
 go_wp2
 obtain ⟨C3,hb4,hov,ho3⟩:=H2.out
 have C4:=(((C3.set 1 (.slice va (tbL l p1).length vc)).set 0 (.slice ka m.length kc)).set 1 (.slice va (tbL l p1).length vc)).set 2 (.int .i64 0)
 refine bodyPost_ret (results_cell3 (g:=w.heap.size) rfl rfl C4 Tryz.underlying197 rfl (by kernel_rfl)) rfl ⟨.slice ka m.length kc, .slice va (tbL l p1).length vc,tbX l p1,tbE l p1,⟨m,tbL l p1,0⟩,rfl,?_,?_,?_,?_⟩
 ·exact ow_at4 ho3
 ·exact ow_at4 hov
 ·exact (((hb4.setCell (p:=⟨w.heap.size,1,none⟩) (Nat.le_refl _) _).setCell (p:=⟨w.heap.size,0,none⟩) (Nat.le_refl _) _).setCell (p:=⟨w.heap.size,1,none⟩) (Nat.le_refl _) _).setCell (p:=⟨w.heap.size,2,none⟩) (Nat.le_refl _) _
 ·rw [← HR.out]
  by_cases h:tbOk l p1
  ·rw [if_pos h]
   exact ⟨rfl,(H3.out.1 h).1,(H3.out.1 h).2⟩
  ·rw [if_neg h]
   exact ⟨H3.out.2 h,rfl⟩
set_option maxHeartbeats 1000000 in
theorem taken_child {b:Value} {l:Bytes} (p:Int) (lvl:Nat) (w:World) (hb:Bs w b l) (hl:l.length≤1073741824) (h:tbOk l p) (hlv:lvl≠0) :
  Calls Tryz.prog 206 #[b, .int .i64 p, .int .i64 (lvl:Int)] w (Takens w (takenV l p lvl)):=by
 generalize hR:takenV l p lvl=R
 unfold takenV at hR
 rw [if_pos h,if_neg hlv] at hR
 obtain ⟨e1,e2⟩:=tbE_ok h
 have hb0:Below w.heap.size w (w.alloc (.cells #[.slice none 0 0, .slice none 0 0, .int .i64 0] 197)):=(Below.refl _ _).alloc (Nat.le_refl _) _
 have z0:(w.alloc (.cells #[.slice none 0 0, .slice none 0 0, .int .i64 0] 197)).heap.size=w.heap.size+1:=by simp
 have C0:Cel (w.alloc (.cells #[.slice none 0 0, .slice none 0 0, .int .i64 0] 197)) w.heap.size [.slice none 0 0, .slice none 0 0, .int .i64 0] 197:=Cel.new w _ _
 have T:=takeBytes_any p _ (hb.below hb0) hl
 unfold TakesB at T
 rw [e1,e2] at T
 have HH:=Lib.hid (anZ hb0 (anZ C0 (anZ hb z0)))
 have HR:=Lib.hid hR
 have hli:((lvl:Int) == 0)=false:=by rw [beq_eq_false_iff_ne]; omega
 clear hb0 C0 h hb e1 e2 z0 hR hlv
 go_enter Tryz.func206,Tryz.ntmps206
 go_wp2_with fail
 refine T.mono ?_
 rintro e w1 ⟨kv,rfl,ho,hb1⟩
 clear T
 obtain ⟨hb0,C0,hb,z0⟩:=HH.out
 have C1:=C0.below hb1 C0.lt
 have c0:w1.cell? ⟨w.heap.size,0,none⟩=some (.slice none 0 0):=C1.cell 0
 have f0:=C1.frozen 0
 have f1:=C1.frozen 1
 have f2:=C1.frozen 2
 obtain ⟨ka,kc,rfl,_⟩:=ho.bs.shape
 have hbw:=hb0.trans (hb1.mono (by simp))
 have C2:=C1.set 0 (.slice ka (tbL l p).length kc)
 have hb2:=hbw.setCell (p:=⟨w.heap.size,0,none⟩) (Nat.le_refl _) (.slice ka (tbL l p).length kc)
 have ho2:=ow_off (i:=0) (u:=.slice ka (tbL l p).length kc) ho (show w.heap.size < (w.alloc (.cells #[.slice none 0 0, .slice none 0 0, .int .i64 0] 197)).heap.size by omega)
 have T:=Go.Proofs.YtgkofgifoiinkaaGreat.take_any (p+2+tbN l p) 4 _ (hb.below hb2) hl
 unfold Takes at T
 have hz2:w.heap.size < (w1.setCell ⟨w.heap.size,0,none⟩ (.slice ka (tbL l p).length kc)).heap.size:=C2.lt
 have H1:=Lib.hid (anZ C2 (anZ hb2 (anZ ho2 hz2)))
 clear hb0 C0 hb z0 C1 hbw C2 hb2 ho2 ho hb1 hz2
 generalize tbL l p=m at *
 generalize p+2+(tbN l p:Int)=p1 at *
 go_wp2_with fail
 refine T.mono ?_
 rintro e w2 ⟨rfl,hb3⟩
 clear T
 obtain ⟨C2,hb2,ho2,hz2⟩:=H1.out
 have C3:=C2.below hb3 hz2
 have c0:w2.cell? ⟨w.heap.size,0,none⟩=some (.slice ka m.length kc):=C3.cell 0
 have c1:w2.cell? ⟨w.heap.size,1,none⟩=some (.slice none 0 0):=C3.cell 1
 have c2:w2.cell? ⟨w.heap.size,2,none⟩=some (.int .i64 0):=C3.cell 2
 have f0:=C3.frozen 0
 have f1:=C3.frozen 1
 have f2:=C3.frozen 2
 have hb4:=hb2.trans (hb3.mono (Nat.le_of_lt hz2))
 have ho3:=(ho2.below hb3).mono (show w.heap.size+1≤(w.alloc (.cells #[.slice none 0 0, .slice none 0 0, .int .i64 0] 197)).heap.size by simp)
 have hN:takeN l p1 4 < 4294967296:=by
  unfold takeN
  split
  ·have:=beNat_lt ((l.drop p1.toNat).take (4:Int).toNat)
   have h2:((l.drop p1.toNat).take (4:Int).toNat).length≤4:=by rw [List.length_take]; exact Nat.min_le_left _ _
   exact Nat.lt_of_lt_of_le this (Nat.pow_le_pow_right (by decide) h2)
  ·decide
 have hNi:(takeN l p1 4:Int) < 4294967296:=by omega
 have hok:takeMay l p1 4∧4≤(l.length:Int)-p1→takeX l p1 4=p1+4∧takeE l p1 4=0:=fun h=>by
  unfold takeX takeE
  rw [if_pos h,if_pos h.1,if_pos h.2]
  exact ⟨rfl,rfl⟩
 have hno:¬ (takeMay l p1 4∧4≤(l.length:Int)-p1)→takeE l p1 4≠0∧takeN l p1 4=0:=fun h=>by
  refine ⟨?_,by unfold takeN; rw [if_neg h]⟩
  unfold takeE
  by_cases h1:takeMay l p1 4
  ·rw [if_pos h1,if_neg (fun h2=>h ⟨h1,h2⟩)]
   decide
  ·rw [if_neg h1]
   decide
 have H2:=Lib.hid (anZ C3 (anZ hb4 ho3))
 have H3:=Lib.hid (anZ hok hno)
 clear C2 hb2 ho2 hz2 C3 hb3 hb4 ho3 hok hno hN
 generalize takeN l p1 4=N at *
 generalize takeX l p1 4=X at *
 generalize takeE l p1 4=E at *
 go_wp2
 obtain ⟨C3,hb4,ho3⟩:=H2.out
 have C4:=(((C3.set 2 (.int .i64 (N:Nat))).set 0 (.slice ka m.length kc)).set 1 (.slice none 0 0)).set 2 (.int .i64 (N:Nat))
 refine bodyPost_ret (results_cell3 (g:=w.heap.size) rfl rfl C4 Tryz.underlying197 rfl (by kernel_rfl)) rfl ⟨.slice ka m.length kc, .slice none 0 0,X,E,⟨m,[],N⟩,rfl,?_,World.ownsRow_nil _ _ _ _,?_,?_⟩
 ·exact ow_at4 ho3
 ·exact (((hb4.setCell (p:=⟨w.heap.size,2,none⟩) (Nat.le_refl _) _).setCell (p:=⟨w.heap.size,0,none⟩) (Nat.le_refl _) _).setCell (p:=⟨w.heap.size,1,none⟩) (Nat.le_refl _) _).setCell (p:=⟨w.heap.size,2,none⟩) (Nat.le_refl _) _
 ·rw [← HR.out]
  by_cases h:takeMay l p1 4∧4≤(l.length:Int)-p1
  ·rw [if_pos h]
   exact ⟨rfl,(H3.out.1 h).1,(H3.out.1 h).2⟩
  ·rw [if_neg h]
   exact H3.out.2 h
theorem taken_any {b:Value} {l:Bytes} (p:Int) (lvl:Nat) (w:World) (hb:Bs w b l) (hl:l.length≤1073741824) :
  Calls Tryz.prog 206 #[b, .int .i64 p, .int .i64 (lvl:Int)] w (Takens w (takenV l p lvl)):=by
 by_cases h:tbOk l p
 ·by_cases hlv:lvl=0
  ·subst hlv
   exact taken_pair p w hb hl h
  ·exact taken_child p lvl w hb hl h hlv
 ·exact taken_no p lvl w hb hl h
def MayP (N lvl:Nat) (es:List En):Prop:=es≠[]∧(0 < lvl→2≤es.length)∧(∀ e∈es,(1≤e.key.length∧e.key.length≤32)∧e.val.length≤128∧e.page < N)∧RiseE es
theorem rise_of {es:List En} (h:∀ (i:Nat) (a b:En),es[i]? = some a→es[i+1]? = some b→cmp a.key b.key < 0):RiseE es:=by
 induction es with
 | nil=>exact List.Pairwise.nil
 | cons a r ih =>
  have hr:RiseE r:=ih fun i x y hx hy=>h (i+1) x y (by simpa using hx) (by simpa using hy)
  refine List.Pairwise.cons ?_ hr
  intro b hb
  obtain ⟨i,hi⟩:=List.getElem?_of_mem hb
  rcases r with _ | ⟨c,r⟩
  ·cases hb
  ·have h1:=h 0 a c rfl rfl
   rcases i with _ | i
   ·simp only [List.getElem?_cons_zero,Option.some.injEq] at hi
    exact hi ▸ h1
   ·have h2:=hr.lt (i:=0) (j:=i+1) rfl hi (by omega)
    exact cmp_ltt h1 h2
def MayTo (N:Nat) (es:List En) (j:Nat):Prop:=(∀ (i:Nat) (e:En),i < j→es[i]? = some e→(1≤e.key.length∧e.key.length≤32)∧e.val.length≤128∧e.page < N) ∧
 ∀ (i:Nat) (a b:En),i+1 < j→es[i]? = some a→es[i+1]? = some b→cmp a.key b.key < 0
theorem MayTo.zero (N:Nat) (es:List En):MayTo N es 0:=⟨fun _ _ h=>absurd h (Nat.not_lt_zero _),fun _ _ _ h=>absurd h (Nat.not_lt_zero _)⟩
theorem MayTo.next {N:Nat} {es:List En} {j:Nat} {a:En} (h:MayTo N es j) (ha:es[j]? = some a) (h1:mayK a.key=true) (h2:mayV a.val=true) (h3:a.page < N) (h4:∀ b,0 < j→es[j-1]? = some b→cmp b.key a.key < 0):MayTo N es (j+1):=by
 refine ⟨fun i e hi he=>?_,fun i x y hi hx hy=>?_⟩
 ·by_cases e1:i=j
  ·subst e1
   rw [ha] at he
   cases he
   exact ⟨of_decide_eq_true h1,of_decide_eq_true h2,h3⟩
  ·exact h.1 i e (by omega) he
 ·by_cases e1:i+1=j
  ·subst e1
   rw [ha] at hy
   cases hy
   exact h4 x (by omega) (by simpa using hx)
  ·exact h.2 i x y (by omega) hx hy
theorem MayTo.all {N lvl:Nat} {es:List En} (h:MayTo N es es.length) (h1:es≠[]) (h2:0 < lvl→2≤es.length):MayP N lvl es:=by
 refine ⟨h1,h2,fun e he=>?_,rise_of fun i a b ha hb=>h.2 i a b ?_ ha hb⟩
 ·obtain ⟨i,hi⟩:=List.getElem?_of_mem he
  exact h.1 i e (List.getElem?_eq_some_iff.1 hi).1 hi
 ·exact (List.getElem?_eq_some_iff.1 hb).1
def Mays (w:World) (Q:Prop) (e:Ending) (w':World):Prop:=∃ b:Bool,e = .returned (.bool b)∧(b=true↔Q)∧Below w.heap.size w w'
theorem may_empty {p:Int} {N lvl:Nat} {ev tv:Value} {S:Nat→Prop} (w:World) (h:Rd kdEn w S ev []) :
  Calls Tryz.prog 207 #[ndv p (lvl:Int) ev tv, .int .i64 (N:Int)] w (Mays w (MayP N lvl [])):=by
 obtain ⟨ea,ec,rfl,_⟩:=h.shape
 have hb:Below w.heap.size w (w.alloc (.cells #[.int .i64 p, .int .i64 (lvl:Int), .slice ea 0 ec,tv] 179)):=(Below.refl _ _).alloc (Nat.le_refl _) _
 have HB:=Lib.hid hb
 clear hb h
 simp only [List.length_nil]
 go_enter Tryz.func207,Tryz.ntmps207
 go_wp2
 go_ret
 exact ⟨false,rfl,⟨fun h=>(nomatch h),fun h=>absurd rfl h.1⟩,HB.out⟩
end Go.Proofs.YtgkofgifoiinkaaGreat
namespace Go.Proofs.YtgkofgifoiinkaaGreat
open Go.RowKit
theorem may_lone {p:Int} {N lvl:Nat} {ev tv:Value} {S:Nat→Prop} {es:List En} (w:World) (h:Rd kdEn w S ev es) (hne:es≠[]) (hl:loneB lvl es.length=true) :
  Calls Tryz.prog 207 #[ndv p (lvl:Int) ev tv, .int .i64 (N:Int)] w (Mays w (MayP N lvl es)):=by
 have hb:Below w.heap.size w (w.alloc (.cells #[.int .i64 p, .int .i64 (lvl:Int),ev,tv] 179)):=(Below.refl _ _).alloc (Nat.le_refl _) _
 have L:=lone_any (p:=p) (lvl:=lvl) (tv:=tv) _ (h.step (Step.of_below hb S))
 rw [hl] at L
 have hm:¬ MayP N lvl es:=fun hm=>by
  unfold loneB at hl
  simp only [Bool.and_eq_true,decide_eq_true_eq] at hl
  have:=hm.2.1 hl.1
  omega
 obtain ⟨ea,ec,rfl,_⟩:=h.shape
 have h0:((es.length:Int) == 0)=false:=by rw [beq_eq_false_iff_ne]; have:=List.length_pos_iff.2 hne; omega
 have HB:=Lib.hid (anZ hb hm)
 clear hb h hl hm
 go_enter Tryz.func207,Tryz.ntmps207
 go_wp2_with fail
 refine L.mono ?_
 rintro e w1 ⟨rfl,hb1⟩
 clear L
 have H1:=Lib.hid hb1
 clear hb1
 go_wp2
 go_ret
 exact ⟨false,rfl,⟨fun h=>(nomatch h),fun h=>absurd h HB.out.2⟩,HB.out.1.trans (H1.out.mono (by simp))⟩
set_option maxHeartbeats 2000000 in
theorem may_loop {p:Int} {N lvl:Nat} {ev tv:Value} {S:Nat→Prop} {es:List En} (w:World) (h:Rd kdEn w S ev es) (hne:es≠[]) (hl:loneB lvl es.length=false) (_hN:N≤4096) (hn:es.length≤4294967296) :
  Calls Tryz.prog 207 #[ndv p (lvl:Int) ev tv, .int .i64 (N:Int)] w (Mays w (MayP N lvl es)):=by
 have hb:Below w.heap.size w (w.alloc (.cells #[.int .i64 p, .int .i64 (lvl:Int),ev,tv] 179)):=(Below.refl _ _).alloc (Nat.le_refl _) _
 have L:=lone_any (p:=p) (lvl:=lvl) (tv:=tv) _ (h.step (Step.of_below hb S))
 rw [hl] at L
 have hm:0 < lvl→2≤es.length:=fun h0=>by
  unfold loneB at hl
  rw [decide_eq_true h0,Bool.true_and] at hl
  have:=of_decide_eq_false hl
  omega
 obtain ⟨ea,ec,rfl,_⟩:=h.shape
 have h0:((es.length:Int) == 0)=false:=by rw [beq_eq_false_iff_ne]; have:=List.length_pos_iff.2 hne; omega
 have z:(w.alloc (.cells #[.int .i64 p, .int .i64 (lvl:Int), .slice ea es.length ec,tv] 179)).heap.size=w.heap.size+1:=by simp
 have cl:(w.alloc (.cells #[.int .i64 p, .int .i64 (lvl:Int), .slice ea es.length ec,tv] 179)).cell? ⟨w.heap.size,2,none⟩=some (.slice ea es.length ec):=by simp
 have HH:=Lib.hid (anZ h (anZ hb (anZ hm (anZ z (anZ cl hne)))))
 clear hb h hl hm z cl hne
 go_enter Tryz.func207,Tryz.ntmps207
 go_wp2_with fail
 refine L.mono ?_
 rintro e w1 ⟨rfl,hb1⟩
 clear L
 obtain ⟨h,hb,hm,z,cl,hne⟩:=HH.out
 have c2:w1.cell? ⟨w.heap.size,2,none⟩=some (.slice ea es.length ec):=(hb1.cell (p:=⟨w.heap.size,2,none⟩) (by rw [z]; exact Nat.lt_succ_self _)).trans cl
 have hbw:=hb.trans (hb1.mono (by simp))
 have hz1:w.heap.size < w1.heap.size:=by have:=hb1.size; omega
 have H1:=Lib.hid (anZ h (anZ hbw (anZ hm (anZ hz1 (anZ hne c2)))))
 clear h hb hm z cl hne hb1 hbw hz1 HH
 go_wp2
 clear c2
 go_loopw [18] (fun i wr=>∃ j:Nat,j≤es.length∧i = .int .i64 j∧MayTo N es j∧Below w1.heap.size w1 wr) (fun i _=>es.length-(intOf i).toNat)
 case atStart=>exact ⟨0,Nat.zero_le _,rfl,MayTo.zero _ _,Below.refl _ _⟩
 case round =>
  obtain ⟨j,hj,rfl,hto,hbr⟩:=hrel
  obtain ⟨h,hbw,hm,hz1,hne,c2⟩:=H1.out
  have bw:=hbw.trans (hbr.mono (Nat.le_of_lt hz1))
  by_cases hlt:j < es.length
  ·obtain ⟨a,ha⟩:∃ a,es[j]? = some a:=⟨_,List.getElem?_eq_getElem hlt⟩
   have hr:=h.step (Step.of_below bw S)
   obtain ⟨g,o,cap,ka,kc,va,vc,e0,hg,c0,c1,cp,hk,hv⟩:=hr.ent ha
   simp only [Value.slice.injEq] at e0
   obtain ⟨rfl,_,rfl⟩:=e0
   have hil:(j:Int) < (es.length:Int):=by omega
   have hw1:Below wr.heap.size wr (wr.alloc (.cells #[.slice ka a.key.length kc, .slice va a.val.length vc, .int .i64 (a.page:Nat)] 197)):=(Below.refl _ _).alloc (Nat.le_refl _) _
   have K:=mayKey_any _ (hk.1.below hw1)
   have V:=mayValue_any _ (hv.1.below hw1)
   have hbf:=bw.trans (hw1.mono bw.size)
   have hbf2:=hbr.trans (hw1.mono hbr.size)
   by_cases hmk:mayK a.key=true
   ·by_cases hmv:mayV a.val=true
    ·by_cases hpg:a.page < N
     ·have hpi:¬ (N:Int)≤(a.page:Int):=by omega
      have hpi2:decide ((N:Int)≤(a.page:Int))=false:=by simp; omega
      rw [hmk] at K
      rw [hmv] at V
      by_cases hj0:j=0
      ·have HT:=Lib.hid (anZ (hto.next ha hmk hmv hpg (fun b h0=>absurd hj0 (by omega))) hbf2)
       clear h hbw hm hz1 hne c2 hto bw hr hk hv hw1 hbf hbf2 ha hmk hmv hpg hbr
       subst hj0
       simp only [Nat.zero_mul,Nat.add_zero] at c0 c1 cp
       go_wp2_with fail
       refine K.mono ?_
       rintro e w2 ⟨rfl,rfl⟩
       clear K
       go_wp2_with fail
       refine V.mono ?_
       rintro e w2 ⟨rfl,rfl⟩
       clear V
       go_wp2_with fail
       go_quiet (fail)
       go_wp2
       go_roundw
       case rel=>exact ⟨1,by omega,by go_num,HT.out.1,below_drewN HT.out.2 _⟩
       case measure=>simp [intOf]; omega
      ·obtain ⟨k,rfl⟩:∃ k,j=k+1:=⟨j-1,by omega⟩
       obtain ⟨b,hb⟩:∃ b,es[k]? = some b:=⟨_,List.getElem?_eq_getElem (by omega)⟩
       obtain ⟨g',o',cap',kb,kd,_,_,e0,hg',d0,_,_,hkb,_⟩:=hr.ent hb
       simp only [Value.slice.injEq,Option.some.injEq,Addr.mk.injEq] at e0
       obtain ⟨⟨rfl,rfl,_⟩,_,rfl⟩:=e0
       have O:=fun n=>order_cmp ((wr.alloc (.cells #[.slice ka a.key.length kc, .slice va a.val.length vc, .int .i64 (a.page:Nat)] 197)).drewN n) ((hkb.1.below hw1).drewN n) ((hk.1.below hw1).drewN n)
       have hki:((k:Int)+1)-1=(k:Int):=by omega
       have hkl:(k:Int) < (es.length:Int):=by omega
       have hk0:(0:Int)≤(k:Int):=by omega
       have hkp:(0:Int) < (k:Int)+1:=by omega
       have hdp:decide ((0:Int) < (k:Int)+1)=true:=decide_eq_true (by omega)
       have n2:(wr.alloc (.cells #[.slice ka a.key.length kc, .slice va a.val.length vc, .int .i64 (a.page:Nat)] 197)).cell? ⟨w.heap.size,2,none⟩=some (.slice (some ⟨g,o,none⟩) es.length ec):=(hbf2.cell (p:=⟨w.heap.size,2,none⟩) hz1).trans c2
       have n0:(wr.alloc (.cells #[.slice ka a.key.length kc, .slice va a.val.length vc, .int .i64 (a.page:Nat)] 197)).cell? ⟨g,o+k*3,none⟩=some (.slice kb b.key.length kd):=(hw1.cell (p:=⟨g,o+k*3,none⟩) hg).trans d0
       by_cases hc:cmp b.key a.key < 0
       ·have HT:=Lib.hid (anZ (hto.next ha hmk hmv hpg (fun x _ hx=>by
         rw [Nat.add_sub_cancel,hb] at hx
         cases hx
         exact hc)) hbf2)
        generalize cmp b.key a.key=x at *
        have hx:¬ (0:Int)≤x:=by omega
        have HO:=Lib.hid O
        clear h hbw hm hz1 hne c2 hto bw hr hk hv hw1 hbf hbf2 ha hmk hmv hpg hbr hj0 hb hkb O hc
        go_wp2_with fail
        refine K.mono ?_
        rintro e w2 ⟨rfl,rfl⟩
        clear K
        go_wp2_with fail
        refine V.mono ?_
        rintro e w2 ⟨rfl,rfl⟩
        clear V
        go_wp2_with fail
        go_quiet ((go_at_call 132; exact quiet_left (HO.out _)))
        go_wp2
        go_roundw
        case rel=>exact ⟨k+1+1,by omega,by go_num,HT.out.1,below_drewN HT.out.2 _⟩
        case measure=>simp [intOf]; omega
       ·have hno:¬ MayP N lvl es:=fun hm=>hc (hm.2.2.2.lt hb ha (by omega))
        have HT:=Lib.hid (anZ hno hbf)
        generalize cmp b.key a.key=x at *
        have hx:(0:Int)≤x:=by omega
        have HO:=Lib.hid O
        clear h hbw hm hz1 hne c2 hto bw hr hk hv hw1 hbf hbf2 ha hmk hmv hpg hbr hj0 hb hkb O hc hno
        go_wp2_with fail
        refine K.mono ?_
        rintro e w2 ⟨rfl,rfl⟩
        clear K
        go_wp2_with fail
        refine V.mono ?_
        rintro e w2 ⟨rfl,rfl⟩
        clear V
        go_wp2_with fail
        go_quiet ((go_at_call 132; exact quiet_left (HO.out _)))
        go_wp2
        go_ret
        exact ⟨false,rfl,⟨fun h=>(nomatch h),fun h=>absurd h HT.out.1⟩,below_drewN HT.out.2 _⟩
     ·have hno:¬ MayP N lvl es:=fun hm=>hpg (hm.2.2.1 a (List.mem_of_getElem? ha)).2.2
      have hpi:(N:Int)≤(a.page:Int):=by omega
      rw [hmk] at K
      rw [hmv] at V
      have HT:=Lib.hid (anZ hno hbf)
      clear h hbw hm hz1 hne c2 hto bw hr hk hv hw1 hbf hbf2 ha hmk hmv hpg hbr hno
      go_wp2_with fail
      refine K.mono ?_
      rintro e w2 ⟨rfl,rfl⟩
      clear K
      go_wp2_with fail
      refine V.mono ?_
      rintro e w2 ⟨rfl,rfl⟩
      clear V
      go_wp2
      go_ret
      exact ⟨false,rfl,⟨fun h=>(nomatch h),fun h=>absurd h HT.out.1⟩,HT.out.2⟩
    ·rw [Bool.not_eq_true] at hmv
     rw [hmk] at K
     rw [hmv] at V
     have hno:¬ MayP N lvl es:=fun hm=>by
      have:=(hm.2.2.1 a (List.mem_of_getElem? ha)).2.1
      unfold mayV at hmv
      have:=of_decide_eq_false hmv
      omega
     have HT:=Lib.hid (anZ hno hbf)
     clear h hbw hm hz1 hne c2 hto bw hr hk hv hw1 hbf hbf2 ha hmk hmv hbr hno
     go_wp2_with fail
     refine K.mono ?_
     rintro e w2 ⟨rfl,rfl⟩
     clear K
     go_wp2_with fail
     refine V.mono ?_
     rintro e w2 ⟨rfl,rfl⟩
     clear V
     go_wp2
     go_ret
     exact ⟨false,rfl,⟨fun h=>(nomatch h),fun h=>absurd h HT.out.1⟩,HT.out.2⟩
   ·rw [Bool.not_eq_true] at hmk
    rw [hmk] at K
    have hno:¬ MayP N lvl es:=fun hm=>by
     have:=(hm.2.2.1 a (List.mem_of_getElem? ha)).1
     unfold mayK at hmk
     have:=of_decide_eq_false hmk
     omega
    have HT:=Lib.hid (anZ hno hbf)
    clear h hbw hm hz1 hne c2 hto bw hr hk hv hw1 hbf hbf2 ha hmk V hbr hno
    go_wp2_with fail
    refine K.mono ?_
    rintro e w2 ⟨rfl,rfl⟩
    clear K
    go_wp2
    go_ret
    exact ⟨false,rfl,⟨fun h=>(nomatch h),fun h=>absurd h HT.out.1⟩,HT.out.2⟩
  ·obtain rfl:j=es.length:=by omega
   have HT:=Lib.hid (anZ (hto.all (lvl:=lvl) hne hm) bw)
   clear h hbw hm hz1 hne c2 hto bw hbr
   go_wp2
   go_ret
   exact ⟨true,rfl,⟨fun _=>HT.out.1,fun _=>rfl⟩,HT.out.2⟩
theorem may_any {p:Int} {N lvl:Nat} {ev tv:Value} {S:Nat→Prop} {es:List En} (w:World) (h:Rd kdEn w S ev es) (hN:N≤4096) (hn:es.length≤4294967296) :
  Calls Tryz.prog 207 #[ndv p (lvl:Int) ev tv, .int .i64 (N:Int)] w (Mays w (MayP N lvl es)):=by
 by_cases hne:es=[]
 ·subst hne
  exact may_empty w h
 ·cases hl:loneB lvl es.length
  ·exact may_loop w h hne hl hN hn
  ·exact may_lone w h hne hl
end Go.Proofs.YtgkofgifoiinkaaGreat
