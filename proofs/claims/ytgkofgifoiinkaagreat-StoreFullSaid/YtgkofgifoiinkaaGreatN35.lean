/- A range over a function's value whose rounds all go on, in a call's own frame; a round at any depth; no condition. -/
import Derived.Test.YtgkofgifoiinkaaGreatN34
import Derived.Test.YtgkofgifoiinkaaGreatN12
import Derived.Test.YtgkofgifoiinkaaGreatN33
import Derived.Test.YtgkofgifoiinkaaGreatN22
import Derived.StillTailTactics
import Derived.Test.YtgkofgifoiinkaaGreatN09
import Derived.RangeFuncBound
namespace Go.Proofs.YtgkofgifoiinkaaGreat
open Go.RowKit
section
variable {w:World} {db:Nat} {D:Dv} {F:Nat→Prop}
def Overs (w:World) (db:Nat) (D:Dv) (F:Nat→Prop) (e:Ending) (w':World):Prop:=∃ sb pb tb mb G,e = .returned (.tuple #[ptr sb,err 0])∧StB w' sb db pb tb mb (.pointer none) D (freshP (D.bk.length-362)) 0 false [] F G ∧
 (w.heap.size≤sb∧w.heap.size≤tb∧w.heap.size≤mb∧∀ q,G q→w.heap.size≤q)∧Below w.heap.size w w'
set_option maxHeartbeats 1000000 in
theorem sover_any (h:Dev w db D F) (ho:D.on=true) (h442:442≤D.bk.length):Calls Tryz.prog 31 #[ptr db] w (Overs w db D F):=by
 have hp:=power_any h
 rw [ho] at hp
 have hs:=size_any h
 have h4096:=h.bks.2
 have hro:=room_any D.bk.length w h4096
 have hr0:roomN D.bk.length≠0:=by
  unfold roomN halfN
  rw [if_neg (by omega)]
  have:1≤(D.bk.length-362) / 2*4 / 5-1:=by omega
  omega
 have hpn:=pgnew_ok (D.bk.length-362) w (by omega) (by omega)
 unfold Overs
 have HH:=Lib.hid h
 have hwr:IntKind.i64.wrap ((D.bk.length:Int)-362)=((D.bk.length-362:Nat):Int):=by rw [IntWalk.i64_in _ (by omega)]; omega
 obtain ⟨k,hk⟩:∃ k,k=D.bk.length:=⟨_,rfl⟩
 obtain ⟨N,hN⟩:∃ N,N=D.bk.length-362:=⟨_,rfl⟩
 obtain ⟨rn,hrn⟩:∃ rn,rn=roomN D.bk.length:=⟨_,rfl⟩
 rw [← hrn] at hro hr0
 rw [← hN] at hpn hwr
 rw [← hN]
 rw [← hk] at hs hro hwr
 have hkN:(k:Int)-362=(N:Int):=by omega
 have hNk:362+N=D.bk.length:=by omega
 have hr0i:¬ (rn:Int)=0:=by omega
 have HN:=Lib.hid hNk
 have hki:(k:Int)≤4096:=by omega
 clear ho h hk hN hrn h442 h4096 hNk
 go_enter Tryz.func31,Tryz.ntmps31
 go_wp2_with fail
 refine hp.mono ?_
 rintro e w1 ⟨rfl,rfl⟩
 clear hp
 go_wp2_with fail
 refine hs.mono ?_
 rintro e w1 ⟨rfl,rfl⟩
 go_wp2_with fail
 refine hro.mono ?_
 rintro e w1 ⟨rfl,rfl⟩
 clear hro
 go_wp2_with fail
 refine hs.mono ?_
 rintro e w1 ⟨rfl,rfl⟩
 clear hs
 go_wp2_with fail
 refine hpn.mono ?_
 rintro e w1 ⟨pb,rfl,hpg,hb1⟩
 clear hpn
 have hd1:=HH.out.below hb1
 have TN:=tnew_ok hd1 hpg 362 (by rw [freshP_length]; have:=HN.out; omega)
 have HA:=Lib.hid (anZ hpg (anZ hb1 hd1))
 clear hpg hb1 hd1
 go_wp2_with fail
 refine TN.mono ?_
 rintro e w2 ⟨rfl,htc,hb2⟩
 clear TN
 have HB:=Lib.hid (anZ htc hb2)
 have hmm := @run_makeMap Tryz.prog
 clear htc hb2
 go_wp2_with fail
 go_ret2
 obtain ⟨hpg,hb1,hd1⟩:=HA.out
 obtain ⟨htc,hb2⟩:=HB.out
 obtain ⟨w3,hw3⟩:∃ w3,w3=w2.alloc (.map #[] 0):=⟨_,rfl⟩
 have hb3:Below w2.heap.size w2 w3:=by rw [hw3]; exact (Below.refl _ _).alloc (Nat.le_refl _) _
 have hm3:SMap w3 w2.heap.size []:=by rw [hw3]; exact smap_new w2
 have e3:w3.heap.size=w2.heap.size+1:=by rw [hw3]; simp
 have hb4:Below w3.heap.size w3 (w3.alloc (.cells #[ptr db,ptr pb,ptr w1.heap.size, .pointer none, .int .u64 0, .map (some w2.heap.size), .int .i64 0, .bool false] 90)):=(Below.refl _ _).alloc (Nat.le_refl _) _
 have ht4:=Cel.new w3 #[ptr db,ptr pb,ptr w1.heap.size, .pointer none, .int .u64 0, .map (some w2.heap.size), .int .i64 0, .bool false] 90
 have hbA:Below w1.heap.size w1 (w3.alloc (.cells #[ptr db,ptr pb,ptr w1.heap.size, .pointer none, .int .u64 0, .map (some w2.heap.size), .int .i64 0, .bool false] 90)):=hb2.trans ((hb3.trans (hb4.mono hb3.size)).mono hb2.size)
 have hbB:Below w2.heap.size w2 (w3.alloc (.cells #[ptr db,ptr pb,ptr w1.heap.size, .pointer none, .int .u64 0, .map (some w2.heap.size), .int .i64 0, .bool false] 90)):=hb3.trans (hb4.mono hb3.size)
 have hs1:=hb1.size
 have hs2:=hb2.size
 have hlt:=htc.lt
 rw [e3] at ht4
 rw [← hw3]
 refine ⟨w2.heap.size+1,pb,w1.heap.size,w2.heap.size,_,rfl,⟨ht4,hd1.below hbA,hpg.below hbA,htc.below hbB hlt,hm3.below hb4,fun q hf hg=>?_,fun q hf=>?_,fun q hg=>?_,by rw [freshP_length]; exact HN.out⟩,⟨by omega,hs1,by omega,fun q hq=>hq.1⟩,hb1.trans (hbA.mono hs1)⟩
 ·have:=HH.out.fl q hf
  omega
 ·have:=HH.out.fl q hf
  exact ⟨by omega,by omega,by omega⟩
 ·have:=hg.2
  exact ⟨by omega,by omega,by omega⟩
end
end Go.Proofs.YtgkofgifoiinkaaGreat
namespace Go.Proofs.YtgkofgifoiinkaaGreat
open Go.RowKit
structure Wipe (D0:Dv) (fr n m r:Nat) (D:Dv):Prop where
 on:D.on=true
 left:D.left < 0
 upto:Upto D (m+r)
 apart:Apart (fun i=>fr≤i∧i < fr+n) D0.bk D.bk
 wiped:∀ i,fr≤i→i < fr+r→∃ x,D.bk[i]? = some x∧x.stands=noughts
structure Wiped (D0:Dv) (fr n m:Nat) (D:Dv):Prop where
 on:D.on=true
 left:D.left < 0
 upto:Upto D (m+n+1)
 apart:Apart (fun i=>fr≤i∧i < fr+n) D0.bk D.bk
 clean:Clean D.bk
 wiped:∀ i,fr≤i→i < fr+n→Still D.bk i noughts
section
variable {D0 D:Dv} {fr n m r:Nat}
theorem noughts_length:noughts.length=512:=List.length_replicate
theorem Wipe.code (h:Wipe D0 fr n m r D) (hr:fr+r < D0.bk.length):wcode D ((fr+r:Nat):Int) noughts=0:=by
 have hl:=h.apart.len
 have h1:¬ D.on=false:=by rw [h.on]; simp
 have h2:¬ noSuch D ((fr+r:Nat):Int) noughts:=by unfold noSuch; have:=noughts_length; omega
 have h3:=h.left
 unfold wcode
 rw [if_neg h1,if_neg h2,if_neg (by omega)]
theorem Wipe.step (h:Wipe D0 fr n m r D) (hr:fr+r < D0.bk.length) (hn:r < n):Wipe D0 fr n m (r+1) (wdev D ((fr+r:Nat):Int) noughts):=by
 have hw:=wdev_zero (h.code hr)
 have hl:=h.apart.len
 have hup:=(wdev_upto h.upto ((fr+r:Nat):Int) noughts).1
 have hap:=h.apart.trans ((apart_wdev D (fr+r) noughts).mono fun i (e:i=fr+r)=>by rw [e]; exact ⟨by omega,by omega⟩)
 have hle:=h.left
 rw [hw] at hup hap ⊢
 refine ⟨h.on,?_,hup,hap,fun i h1 h2=>?_⟩
 ·show spent D.left < 0
  unfold spent
  split <;> omega
 ·simp only
  rw [wrote_get]
  by_cases e:i=fr+r
  ·rw [if_pos e]
   have hi:i < D.bk.length:=by omega
   rw [List.getElem?_eq_getElem hi]
   exact ⟨_,rfl,by simp [Bk.stands]⟩
  ·rw [if_neg e]
   exact h.wiped i h1 (by omega)
theorem Wipe.sure (h:Wipe D0 fr n m n D):fcode D=0∧Wiped D0 fr n m (fdev D):=by
 have h1:¬ D.on=false:=by rw [h.on]; simp
 have h3:=h.left
 have hd:fdev D=⟨flushed D.bk,D.on,spent D.left⟩:=by unfold fdev; rw [if_neg h1,if_neg (by omega)]
 have hup:=(fdev_upto h.upto).1
 refine ⟨by unfold fcode; rw [if_neg h1,if_neg (by omega)],?_⟩
 rw [hd] at hup ⊢
 refine ⟨h.on,?_,hup,h.apart.trans (apart_flushed _),clean_flushed _,fun i h1 h2=>?_⟩
 ·show spent D.left < 0
  unfold spent
  split <;> omega
 ·obtain ⟨x,hx,hs⟩:=h.wiped i h1 h2
  unfold Still
  rw [flushed_at hx,hs]
end
section
variable {w:World} {sb db pb tb mb g fr n m:Nat} {jv:Value} {D:Dv} {ps:List Pg} {dead:Bool} {P:List Pr} {F G:Nat→Prop}
set_option maxRecDepth 100000 in
set_option maxHeartbeats 4000000 in
theorem swipe_any (h:StB w sb db pb tb mb jv D ps g dead P F G) (ho:D.on=true) (hlf:D.left < 0) (hu:Upto D m) (hm:m+n≤900000) (hn:fr+n≤D.bk.length) :
  Calls Tryz.prog 34 #[ptr sb, .int .i64 (fr:Int), .int .i64 (n:Int)] w fun e w'=>e = .returned (err 0)∧∃ D' F',StB w' sb db pb tb mb jv D' ps g dead P F' G∧Wiped D fr n m D'∧Step (BS sb mb F G) w w' (BS sb mb F' G):=by
 have hlen:=h.dev.bks.2
 have HH:=Lib.hid (anZ h (anZ ho (anZ hlf (anZ hu (anZ hm hn)))))
 have hfi:(fr:Int)+(n:Int)≤4096:=by omega
 have hw0:Wipe D fr n m 0 D:=⟨ho,hlf,hu,Apart.refl _ _,fun i h1 h2=>by omega⟩
 have H0:=Lib.hid hw0
 clear h ho hlf hu hn hlen hw0
 go_enter Tryz.func34,Tryz.ntmps34
 go_wp2_with fail
 go_loopw [10] (fun i wr=>∃ (r:Nat) (D':Dv) (F':Nat→Prop),r≤n∧i = .int .i64 (r:Int)∧StB wr sb db pb tb mb jv D' ps g dead P F' G∧Wipe D fr n m r D'∧Step (BS sb mb F G) w wr (BS sb mb F' G)) (fun i _=>n-(intOf i).toNat)
 case atStart=>exact ⟨0,D,F,Nat.zero_le _,rfl,HH.out.1,H0.out,Step.refl _ _⟩
 case round =>
  obtain ⟨r,D',F',hr,rfl,hB,hW,hst⟩:=hrel
  by_cases hlt:r < n
  ·have hil:(r:Int) < (n:Int):=by omega
   have hr0:(0:Int)≤(r:Int):=by omega
   have HB:=Lib.hid (anZ hB (anZ hW (anZ hst hlt)))
   have HX:=Lib.hid (fun (W:World) (hW:W.heap[sb]? = wr.heap[sb]?)=>((HB.out.1.top.kept hW).cells))
   clear hB hW hst hr
   go_upto_region 4 with fail
   refine region_till 99 (fun W=>W.heap[sb]? = wr.heap[sb]?) (by kernel_rfl) rfl (fun hS=>?_)
   refine tkZ (i:=0) 13 (ptr sb) rfl rfl (by kernel_rfl) (fun _ _ _ h=>h) (by rfl) (fun W hW=>?_) hS ?_
   ·obtain ⟨c0,c1,c2,c3,c4,c5,c6,c7⟩:=HX.out W hW
    clear hW
    go_simp
   simp only [Act.put,sAZ,sBZ,sCZ]
   refine tkZ (i:=1) 14 (ptr sb) rfl rfl (by kernel_rfl) (fun _ _ _ h=>h) (by rfl) (fun W hW=>?_) hS ?_
   ·obtain ⟨c0,c1,c2,c3,c4,c5,c6,c7⟩:=HX.out W hW
    clear hW
    go_simp
   simp only [Act.put,sAZ,sBZ,sCZ]
   refine tkZ (i:=2) 15 (.pointer (some ⟨sb,0,none⟩)) rfl rfl (by kernel_rfl) (fun _ _ _ h=>h) (by rfl) (fun W hW=>?_) hS ?_
   ·obtain ⟨c0,c1,c2,c3,c4,c5,c6,c7⟩:=HX.out W hW
    clear hW
    go_simp
   simp only [Act.put,sAZ,sBZ,sCZ]
   refine tkZ (i:=3) 16 (ptr db) rfl rfl (by kernel_rfl) (fun _ _ _ h=>h) (by rfl) (fun W hW=>?_) hS ?_
   ·obtain ⟨c0,c1,c2,c3,c4,c5,c6,c7⟩:=HX.out W hW
    clear hW
    go_simp
   simp only [Act.put,sAZ,sBZ,sCZ]
   refine tkZ (i:=4) 17 (.int .i64 (fr:Int)) rfl rfl (by kernel_rfl) (fun _ _ _ h=>h) (by rfl) (fun W hW=>?_) hS ?_
   ·obtain ⟨c0,c1,c2,c3,c4,c5,c6,c7⟩:=HX.out W hW
    clear hW
    go_simp
   simp only [Act.put,sAZ,sBZ,sCZ]
   refine tkZ (i:=5) 18 (.int .i64 (r:Int)) rfl rfl (by kernel_rfl) (fun _ _ _ h=>h) (by rfl) (fun W hW=>?_) hS ?_
   ·obtain ⟨c0,c1,c2,c3,c4,c5,c6,c7⟩:=HX.out W hW
    clear hW
    go_simp
   simp only [Act.put,sAZ,sBZ,sCZ]
   refine tkZ (i:=6) 19 (.int .i64 ((fr+r:Nat):Int)) rfl rfl (by kernel_rfl) (fun _ _ _ h=>h) (by rfl) (fun W hW=>?_) hS ?_
   ·obtain ⟨c0,c1,c2,c3,c4,c5,c6,c7⟩:=HX.out W hW
    clear hW
    go_simp
    exact IntWalk.i64_in _ (by omega)
   simp only [Act.put,sAZ,sBZ,sCZ]
   obtain ⟨w2,hmk,how,hg2⟩:=run_zeros_bs bt wr.drew wr.heap.size .i64 .i64 512 (by decide) (Nat.le_refl _)
   have hmk':(Instr.makeSlice 24 (.int .i64 512) (.int .i64 512)).run Tryz.prog wr.drew = .ok (.slice (some ⟨wr.heap.size,0,none⟩) 512 512) w2:=hmk
   have hb2:Below wr.heap.size wr w2:=(below_drewN (Below.refl _ _) 1).trans ((Below.refl wr.heap.size wr.drew).grown hg2 (Nat.le_refl _) (fun j hj=>by cases hj))
   have S2:w2.heap[sb]? = wr.heap[sb]?:=hb2.block _ HB.out.1.top.lt
   have hbs:Bs w2 (.slice (some ⟨wr.heap.size,0,none⟩) 512 512) noughts:=how.bs
   have hB2:=HB.out.1.below hb2
   have hWi:=HB.out.2.1
   have hk:fr+r < D.bk.length:=by have:=HH.out.2.2.2.2.2; omega
   have hcode:=hWi.code hk
   have WR:=dwrite_any hB2.dev (hWi.upto.small (by have:=HH.out.2.2.2.2.1; omega)) ((fr+r:Nat):Int) hbs (fun q hq hf=>by cases hq; exact absurd (HB.out.1.dev.fl _ hf) (Nat.lt_irrefl _))
   rw [hcode] at WR
   have hWn:=hWi.step hk HB.out.2.2.2
   have hup:=(wdev_upto hWi.upto ((fr+r:Nat):Int) noughts).2
   have HC:=Lib.hid (anZ hB2 (anZ hWn (anZ hup (HB.out.2.2.1.trans (Step.of_below hb2 (BS sb mb F' G))))))
   clear hmk how hg2 hb2 hbs hB2 hWi hk hcode hWn hup
   refine next_till 7 (by kernel_rfl) rfl (fun K hK=>?_)
   go_simp
   refine hK.out _ _ (fun _=>S2) ?_
   clear hK K hS hmk'
   refine next_till 8 (by kernel_rfl) rfl (fun K hK=>?_)
   go_simp
   refine WR.mono ?_
   rintro e w3 ⟨rfl,hd3,ho3⟩
   clear WR
   obtain ⟨hB3,hst3⟩:=HC.out.1.devs hd3 ho3 HC.out.2.2.1
   have hS:w3.heap[sb]? = wr.heap[sb]?:=(show w3.heap[sb]? = _ from hB3.top).trans (show wr.heap[sb]? = _ from HB.out.1.top).symm
   have HE:=Lib.hid (anZ hB3 (HC.out.2.2.2.trans hst3))
   clear hB3 hst3 hd3 ho3 S2
   go_simp
   refine hK.out _ _ (fun _=>hS) ?_
   clear hK K
   refine tkZ (i:=9) 8 (.int .i64 0) rfl rfl (by kernel_rfl) (fun _ _ _ h=>h) (by rfl) (fun W hW=>?_) hS ?_
   ·clear HX
    clear hW
    go_simp
   simp only [Act.put,sAZ,sBZ,sCZ]
   refine done_till (by kernel_rfl) ?_ _
   clear hS HX
   go_wp2
   go_roundw
   case rel=>exact ⟨r+1,_,_,HB.out.2.2.2,by go_num,HE.out.1,HC.out.2.1,HE.out.2⟩
   case measure =>
    have:=HB.out.2.2.2
    simp [intOf]; omega
  ·obtain rfl:r=n:=by omega
   have hil:¬ (r:Int) < (r:Int):=by omega
   obtain ⟨c0,c1,c2,c3,c4,c5,c6,c7⟩:=hB.top.cells
   obtain ⟨hfc,hsu⟩:=hW.sure
   have FL:=dflush_any hB.dev (hW.upto.small (by have:=HH.out.2.2.2.2.1; omega))
   rw [hfc] at FL
   have hup:=(fdev_upto hW.upto).2
   have HB:=Lib.hid (anZ hB (anZ hst (anZ hsu hup)))
   clear hB hW hst hr hlt hfc hsu hup
   go_wp2_with fail
   refine FL.mono ?_
   rintro e w3 ⟨rfl,hd3,ho3⟩
   clear FL c0 c1 c2 c3 c4 c5 c6 c7
   obtain ⟨hB3,hst3⟩:=HB.out.1.devs hd3 ho3 HB.out.2.2.2
   have HE:=Lib.hid (anZ hB3 (HB.out.2.1.trans hst3))
   clear hB3 hst3 hd3 ho3
   go_wp2
   go_ret
   exact ⟨rfl,_,_,HE.out.1,HB.out.2.2.1,HE.out.2⟩
end
end Go.Proofs.YtgkofgifoiinkaaGreat
namespace Go.Proofs.YtgkofgifoiinkaaGreat
open Go.RowKit
abbrev rootV3 (pg:Int) (a s:Nat):Value:=.agg #[.int .i64 pg, .int .i64 (a:Int), .int .u64 (s:Int)]
theorem load_root3 {w:World} {g:Nat} {p a s:Int} (h:Cel w g [.int .i64 p, .int .i64 a, .int .u64 s] 80):(loadVar 80 ⟨g,0,none⟩).run Tryz.prog w = .ok (.agg #[.int .i64 p, .int .i64 a, .int .u64 s]) w:=by
 have c0:w.cell? ⟨g,0,none⟩=some (.int .i64 p):=by rw [h.cell]; rfl
 have c1:w.cell? ⟨g,1,none⟩=some (.int .i64 a):=by rw [h.cell]; rfl
 have c2:w.cell? ⟨g,2,none⟩=some (.int .u64 s):=by rw [h.cell]; rfl
 clear h
 go_simp
theorem sstill_left {P:Program} {f:FuncId} {args:Array Value} {w:World} {v:Value} (h:Calls P f args w fun e w'=>e = .returned v∧w=w'):Calls P f args w fun e w'=>e = .returned v∧w'=w :=
 h.mono fun _ _ ⟨h1,h2⟩=>⟨h1,h2.symm⟩
theorem wrap_back {pg:Int} (hp1 : -9223372036854775808≤pg) (hp2:pg≤9223372036854775807):IntKind.i64.wrap (pg % 18446744073709551616)=pg:=by
 by_cases hneg:pg < 0
 ·have e5:pg % 18446744073709551616=pg+18446744073709551616:=by omega
  rw [e5]
  unfold IntKind.wrap
  rw [if_pos]
  ·show (pg+18446744073709551616) % 18446744073709551616-18446744073709551616=pg
   omega
  ·simp only [IntKind.signed,Bool.true_and,decide_eq_true_eq]
   show (9223372036854775808:Int)≤(pg+18446744073709551616) % 18446744073709551616
   omega
 ·have e5:pg % 18446744073709551616=pg:=by omega
  rw [e5]
  exact IntWalk.i64_in _ (by omega)
set_option maxRecDepth 100000 in
set_option maxHeartbeats 4000000 in
theorem sopen_any {w:World} {v:Value} (pg:Int) (a s:Nat) (h:Bs w v (bodyR pg a s)) (hp1 : -9223372036854775808≤pg) (hp2:pg≤9223372036854775807) (ha:a < 9223372036854775808) (hs:s < 18446744073709551616) :
  Calls Tryz.prog 90 #[v] w fun e w'=>e = .returned (.tuple #[rootV3 pg a s, .bool true])∧Below w.heap.size w w':=by
 have kc:=fun (w:World) (o:Obj) (C:Array Value) (n c:Nat)=>run_convert_second w o C n c
 obtain ⟨va,vc,rfl,_⟩:=h.shape
 have h29:=bodyR_length pg a s
 obtain ⟨w2,hw2⟩:∃ w2,w2=(w.alloc (.cells #[.int .i64 0, .int .i64 0, .int .u64 0] 80)).alloc (.cells #[.int .u8 115, .int .u8 116, .int .u8 111, .int .u8 114, .int .u8 101] 5 (5,6)):=⟨_,rfl⟩
 have hb2:Below w.heap.size w w2:=by rw [hw2]; exact ((Below.refl _ _).alloc (Nat.le_refl _) _).alloc (by simp) _
 have C2:Cel w2 w.heap.size [.int .i64 0, .int .i64 0, .int .u64 0] 80:=by
  rw [hw2]
  exact (Cel.new w _ _).kept (Below.heap_alloc _ _ _ (by simp))
 have B2:Bs w2 (.slice (some ⟨w.heap.size+1,0,none⟩) 5 5) signL:=by
  rw [hw2]
  have:=bs_text (w.alloc (.cells #[.int .i64 0, .int .i64 0, .int .u64 0] 80)) #[.int .u8 115, .int .u8 116, .int .u8 111, .int .u8 114, .int .u8 101] signL 5 (5,6) rfl rfl (by decide)
  simpa using this
 have hv2:=h.below hb2
 have CP:=cutPrefix_yes w2 rfl hv2 B2 rfl
 have hv24:Bs w2 (sliced va signL.length (bodyR pg a s).length vc 1) (leL (u64N pg) 8++(leL a 8++leL s 8)):=bs_from hv2 signL.length (by rw [h29]; decide)
 obtain ⟨a3,c3,e3,hv24⟩:=hv24.shape
 have e24:(leL (u64N pg) 8++(leL a 8++leL s 8)).length=24:=by simp [leL_length]
 rw [e24] at e3 hv24
 rw [e3,h29] at CP
 rw [h29]
 have s8:∀ w1:World,(Instr.slice 24 (.slice a3 24 c3) (some (.int .i64 8)) none none).run Tryz.prog w1 = .ok (sliced a3 8 24 c3 1) w1:=run_slice_low (P:=Tryz.prog) bt (v:=.slice a3 24 c3) rfl .i64 8 (by omega)
 have s16:∀ w1:World,(Instr.slice 24 (.slice a3 24 c3) (some (.int .i64 16)) none none).run Tryz.prog w1 = .ok (sliced a3 16 24 c3 1) w1:=run_slice_low (P:=Tryz.prog) bt (v:=.slice a3 24 c3) rfl .i64 16 (by omega)
 have b8:Bs w2 (sliced a3 8 24 c3 1) (leL a 8++leL s 8):=by
  have:=bs_from hv24 8 (by omega)
  rwa [List.drop_left' (leL_length _ _)] at this
 have b16:Bs w2 (sliced a3 16 24 c3 1) (leL s 8++[]):=by
  have:=bs_from hv24 16 (by omega)
  rw [← List.append_assoc,List.drop_left' (by simp [leL_length])] at this
  rwa [List.append_nil]
 obtain ⟨v8,hv8⟩:∃ v8,v8=sliced a3 8 24 c3 1:=⟨_,rfl⟩
 obtain ⟨v16,hv16⟩:∃ v16,v16=sliced a3 16 24 c3 1:=⟨_,rfl⟩
 rw [← hv8] at s8 b8
 rw [← hv16] at s16 b16
 have N0:=fun m=>number_any (w:=w2.drewN m) (n:=u64N pg) (hv24.drewN m) (u64N_lt pg)
 have N1:=fun m=>number_any (w:=w2.drewN m) (n:=a) (b8.drewN m) (by omega)
 have N2:=fun m=>number_any (w:=w2.drewN m) (n:=s) (b16.drewN m) hs
 have wp:IntKind.i64.wrap (u64N pg:Int)=pg:=by
  have e:(u64N pg:Int)=pg % 18446744073709551616:=by
   unfold u64N
   exact Int.toNat_of_nonneg (Int.emod_nonneg pg (by decide))
  rw [e]
  exact wrap_back hp1 hp2
 have wa:IntKind.i64.wrap (a:Int)=(a:Int):=IntWalk.i64_in _ (by omega)
 generalize u64N pg=un at *
 have H2:=Lib.hid (anZ hb2 (anZ C2 hw2))
 have HN:=Lib.hid (anZ N0 (anZ N1 N2))
 clear h h29 hb2 C2 B2 hv2 hv24 e3 e24 b8 b16 hv8 hv16 N0 N1 N2 hw2
 go_enter Tryz.func90,Tryz.ntmps90
 go_wp2_with fail
 rw [← H2.out.2.2]
 clear kc
 refine CP.mono ?_
 rintro e w3 ⟨rfl,rfl⟩
 clear CP
 go_upto_region 4 with fail
 go_wp2_with fail
 go_still_tail 11,(by kernel_rfl)
 still_call (sstill_left (HN.out.1 1))
 repeat still_step
 still_call (sstill_left (HN.out.2.1 1))
 repeat still_step
 still_call (sstill_left (HN.out.2.2 1))
 repeat still_step
 refine wpStill_nil ?_
 change wpList _ _ _ _ _ w2.drew
 have C2:Cel w2.drew w.heap.size [.int .i64 0, .int .i64 0, .int .u64 0] 80:=H2.out.2.1
 have hb2:Below w.heap.size w w2.drew:=below_drewN H2.out.1 1
 generalize w2.drew=w3 at *
 have c0:w3.cell? ⟨w.heap.size,0,none⟩=some (.int .i64 0):=C2.cell 0
 have c1:w3.cell? ⟨w.heap.size,1,none⟩=some (.int .i64 0):=C2.cell 1
 have c2:w3.cell? ⟨w.heap.size,2,none⟩=some (.int .u64 0):=C2.cell 2
 have f0:=C2.frozen 0
 have f1:=C2.frozen 1
 have f2:=C2.frozen 2
 have H3:=Lib.hid (anZ C2 hb2)
 clear C2 hb2
 go_wp2
 have k3:=((H3.out.1.set 0 (.int .i64 pg)).set 1 (.int .i64 (a:Int))).set 2 (.int .u64 (s:Int))
 refine bodyPost_ret (results_cell_tmp rfl rfl (load_root3 k3)) rfl ?_
 exact ⟨rfl,(((H3.out.2.setCell (p:=⟨w.heap.size,0,none⟩) (Nat.le_refl _) _).setCell (p:=⟨w.heap.size,1,none⟩) (Nat.le_refl _) _).setCell (p:=⟨w.heap.size,2,none⟩) (Nat.le_refl _) _)⟩
end Go.Proofs.YtgkofgifoiinkaaGreat
namespace Go.Proofs.YtgkofgifoiinkaaGreat
open Go.RowKit
section
variable {w:World} {sb db pb tb mb g g' a s:Nat} {jv:Value} {pg:Int} {D:Dv} {ps:List Pg} {dead:Bool} {P:List Pr} {F G:Nat→Prop} {l:Bytes} {c:Int}
set_option maxHeartbeats 1000000 in
theorem sload_none (h:StB w sb db pb tb mb jv D ps g dead P F G) (hv:loadV D=(g',l,c)) (hc:c≠0):Calls Tryz.prog 61 #[ptr sb] w fun e w'=>e = .returned (.tuple #[rootV3 0 0 0,err c])∧Below w.heap.size w w':=by
 obtain ⟨w1,hw1⟩:∃ w1,w1=w.alloc (.cells #[.int .i64 0, .int .i64 0, .int .u64 0] 80):=⟨_,rfl⟩
 have hb1:Below w.heap.size w w1:=by rw [hw1]; exact (Below.refl _ _).alloc (Nat.le_refl _) _
 have hrt:Cel w1 w.heap.size [.int .i64 0, .int .i64 0, .int .u64 0] 80:=by rw [hw1]; exact Cel.new w _ _
 have h1:=h.below hb1
 have c0:=h1.top.cells.1
 have LD:=load_any h1.dev
 rw [hv] at LD
 have HH:=Lib.hid (anZ hb1 hrt)
 have HW:=Lib.hid hw1.symm
 clear h h1 hb1 hrt hw1 hv
 go_enter Tryz.func61,Tryz.ntmps61
 go_upto_region 1 with fail
 rw [HW.out]
 go_wp2_with fail
 refine LD.mono ?_
 rintro e w2 ⟨v,rfl, -,hb2⟩
 clear LD c0
 have k2:=HH.out.2.below hb2 HH.out.2.lt
 have d0:w2.cell? ⟨w.heap.size,0,none⟩=some (.int .i64 0):=k2.cell 0
 have d1:w2.cell? ⟨w.heap.size,1,none⟩=some (.int .i64 0):=k2.cell 1
 have d2:w2.cell? ⟨w.heap.size,2,none⟩=some (.int .u64 0):=k2.cell 2
 have f0:=k2.frozen 0
 have f1:=k2.frozen 1
 have f2:=k2.frozen 2
 have H2:=Lib.hid (anZ k2 (HH.out.1.trans (hb2.mono HH.out.1.size)))
 clear k2 hb2
 go_wp2
 have k3:=((H2.out.1.set 0 (.int .i64 0)).set 1 (.int .i64 0)).set 2 (.int .u64 0)
 refine bodyPost_ret (results_cell_tmp rfl rfl (load_root3 k3)) rfl ?_
 exact ⟨rfl,(((H2.out.2.setCell (p:=⟨w.heap.size,0,none⟩) (Nat.le_refl _) _).setCell (p:=⟨w.heap.size,1,none⟩) (Nat.le_refl _) _).setCell (p:=⟨w.heap.size,2,none⟩) (Nat.le_refl _) _)⟩
set_option maxHeartbeats 1000000 in
theorem sload_ok (h:StB w sb db pb tb mb jv D ps g dead P F G) (hv:loadV D=(g',bodyR pg a s,0)) (hp1 : -1≤pg) (hp2:pg≤4000000) (ha:a≤4096) (hs:s≤4000000) :
  Calls Tryz.prog 61 #[ptr sb] w fun e w'=>e = .returned (.tuple #[rootV3 pg a s,err 0])∧StB w' sb db pb tb mb jv D ps g' dead P F G∧Step (BS sb mb F G) w w' (BS sb mb F G):=by
 obtain ⟨w1,hw1⟩:∃ w1,w1=w.alloc (.cells #[.int .i64 0, .int .i64 0, .int .u64 0] 80):=⟨_,rfl⟩
 have hb1:Below w.heap.size w w1:=by rw [hw1]; exact (Below.refl _ _).alloc (Nat.le_refl _) _
 have hrt:Cel w1 w.heap.size [.int .i64 0, .int .i64 0, .int .u64 0] 80:=by rw [hw1]; exact Cel.new w _ _
 have h1:=h.below hb1
 have c0:=h1.top.cells.1
 have LD:=load_any h1.dev
 rw [hv] at LD
 have HH:=Lib.hid (anZ hb1 (anZ hrt (anZ h1 (anZ h (anZ hp1 (anZ hp2 (anZ ha hs)))))))
 have HW:=Lib.hid hw1.symm
 clear h h1 hb1 hrt hw1 hv hp1 hp2 ha hs
 go_enter Tryz.func61,Tryz.ntmps61
 go_upto_region 1 with fail
 rw [HW.out]
 go_wp2_with fail
 refine LD.mono ?_
 rintro e w2 ⟨v,rfl,hnew,hb2⟩
 clear LD c0
 have OP:=sopen_any pg a s hnew.1 (by have:=HH.out.2.2.2.2.1; omega) (by have:=HH.out.2.2.2.2.2.1; omega) (by have:=HH.out.2.2.2.2.2.2.1; omega) (by have:=HH.out.2.2.2.2.2.2.2; omega)
 obtain ⟨va,vc,rfl, -⟩:=hnew.1.shape
 have hl29:=bodyR_length pg a s
 rw [hl29] at OP
 rw [hl29]
 have HB:=Lib.hid hb2
 clear hnew hb2 hl29
 go_wp2_with fail
 refine OP.mono ?_
 rintro e w3 ⟨rfl,hb3⟩
 clear OP
 have hbx:=HB.out.trans (hb3.mono HB.out.size)
 have hA3:=HH.out.2.2.1.below hbx
 have k3:=HH.out.2.1.below hbx HH.out.2.1.lt
 have d0:w3.cell? ⟨w.heap.size,0,none⟩=some (.int .i64 0):=k3.cell 0
 have d1:w3.cell? ⟨w.heap.size,1,none⟩=some (.int .i64 0):=k3.cell 1
 have d2:w3.cell? ⟨w.heap.size,2,none⟩=some (.int .u64 0):=k3.cell 2
 have f0:=k3.frozen 0
 have f1:=k3.frozen 1
 have f2:=k3.frozen 2
 have c4:=hA3.top.cells.2.2.2.2.1
 have f4:=hA3.top.frozen 4
 have hws:w.heap.size < w3.heap.size:=k3.lt
 have hss:sb < w.heap.size:=HH.out.2.2.2.1.top.lt
 have hsw:sb < w3.heap.size:=by omega
 have hne1:¬ w3.heap.size=w.heap.size:=by omega
 have hne2:¬ w3.heap.size=sb:=by omega
 have hne3:¬ sb=w.heap.size:=by omega
 have H3:=Lib.hid (anZ hA3 (anZ k3 hbx))
 clear hA3 k3 hbx hb3
 go_wp2
 obtain ⟨hA3,k3,hbx⟩:=H3.out
 obtain ⟨hB4,hs4⟩:=hA3.set (g':=g') (jv':=jv) (dead':=dead) 4 (.int .u64 (g':Int)) (hA3.top.setGen g')
 have k4:=k3.kept (Below.heap_setCell w3 ⟨sb,4,none⟩ (.int .u64 (g':Int)) w.heap.size (fun e=>hne3 (by rw [e])))
 obtain ⟨w4,hw4⟩:∃ w4,w4=w3.setCell ⟨sb,4,none⟩ (.int .u64 (g':Int)):=⟨_,rfl⟩
 rw [← hw4] at hB4 hs4 k4
 rw [← hw4]
 have k5:=((k4.set 0 (.int .i64 pg)).set 1 (.int .i64 (a:Int))).set 2 (.int .u64 (s:Int))
 have ho5:Only (fun q=>q=w.heap.size) w4 (((w4.setCell ⟨w.heap.size,0,none⟩ (.int .i64 pg)).setCell ⟨w.heap.size,1,none⟩ (.int .i64 (a:Int))).setCell ⟨w.heap.size,2,none⟩ (.int .u64 (s:Int))) :=
  (((Only.refl (fun q=>q=w.heap.size) w4).setCell (p:=⟨w.heap.size,0,none⟩) (.inl rfl) _).setCell (p:=⟨w.heap.size,1,none⟩) (.inl rfl) _).setCell (p:=⟨w.heap.size,2,none⟩) (.inl rfl) _
 have hlt0:=HH.out.2.2.2.1.lt
 have htl:=HH.out.2.2.2.1.tlt
 have hB5:=hB4.only ho5 (fun e=>by omega) fun q hq e=>by have:=hlt0 q hq; omega
 obtain ⟨w5,hw5⟩:∃ w5,w5=((w4.setCell ⟨w.heap.size,0,none⟩ (.int .i64 pg)).setCell ⟨w.heap.size,1,none⟩ (.int .i64 (a:Int))).setCell ⟨w.heap.size,2,none⟩ (.int .u64 (s:Int)):=⟨_,rfl⟩
 rw [← hw5] at k5 ho5 hB5
 rw [← hw5]
 have hb6:Below w5.heap.size w5 (w5.alloc (.cells #[.int .i64 pg, .int .i64 (a:Int), .int .u64 (s:Int)] 80)):=(Below.refl _ _).alloc (Nat.le_refl _) _
 refine bodyPost_ret (results_cell_tmp rfl rfl (load_root3 (k5.below hb6 k5.lt))) rfl ?_
 refine ⟨rfl,hB5.below hb6,?_⟩
 have hst:Step (BS sb mb F G) w w4 (BS sb mb F G):=(Step.of_below (HH.out.1.trans (hbx.mono HH.out.1.size)) (BS sb mb F G)).trans hs4
 refine Step.bel ⟨⟨ho5.os.trans hst.only.os,ho5.tape.trans hst.only.tape,ho5.output.trans hst.only.output,Nat.le_trans hst.size ho5.size,fun q hq hn=>(ho5.block q (Nat.lt_of_lt_of_le hq hst.size) (fun e=>by omega)).trans (hst.only.block q hq hn)⟩,fun q hq=>.inl hq⟩ hb6
end
end Go.Proofs.YtgkofgifoiinkaaGreat
namespace Go.Proofs.YtgkofgifoiinkaaGreat
open Go.RowKit
theorem yield_deep {m:Nat} (m':Nat) {P:Program} {l:Nat} {args:Array Value} {W:World} {R:Ending→World→Prop} (h:YieldAt Fence.wide m P l args W R):YieldAt Fence.wide m' P l args W R:=by
 obtain ⟨fn,tmps,assign,body,hy,hR⟩:=h
 exact ⟨fn,tmps,assign,body,hy,hR.1,fun c cs _=>hR.2 c cs (fun d hd=>by cases hd)⟩
theorem yield_on {n l D fn:Nat} {P:Program} {tmps:Array Value} {ps:Array Tmp} {assign body:Code} {W W1:World} {args:Array Value} {R:World→Prop} {rec:LoopState→Option Code→Loop}
  (hrec:rec=fun st pe=>{ state:=st,pending:=pe,fn,tmps,params:=ps,assign,body,defers:=D })
  (hl:W.heap[l]? = some (.loop (rec .ready none))) (hs:args.size=ps.size) {a₁:Act}
  (ha:∀ K:Act→World→Prop,K a₁ W1→assign.wpIn (Fence.wide.inRound l) n P (Exit.then K (fun _ _ _=>False)) { tmps:=(ps.zip args).foldl (fun t (p,v)=>t.setIfInBounds p v) tmps,defers:=[] } W)
  (hl1:W1.heap[l]? = some (.loop (rec .ready none)))
  (hb:body.wpIn (Fence.wide.inRound l) n P (GoesOn fun W'=>W'.heap[l]? = some (.loop (rec .busy none))∧R (W'.putObj l (.loop (rec .ready none)))) a₁ (W1.putObj l (.loop (rec .busy none)))) :
  YieldAt Fence.wide n P l args W fun e W'=>e = .returned (.bool true)∧R W':=by
 have hy:=run_yield (P:=P) (args:=args) hl (by rw [hrec]; exact hs)
 rw [hrec] at hy
 refine ⟨fn,_,assign,body,hy,roundIn_of_wpIn trivial (ha _ ⟨_,run_beginRound hl1 (by rw [hrec]),?_⟩)⟩
 have e1:({ rec .ready none with state:=.busy }:Loop)=rec .busy none:=by rw [hrec]
 rw [e1]
 refine wpIn_mono hb ?_
 rintro e a3 W3 hp
 cases e with
 | normal =>
  obtain ⟨hl3,hR⟩:=hp
  have:=run_endRound (P:=P) none hl3
  have e2:({ rec .busy none with state:=if (none:Option Code).isNone then .ready else .done,pending:=none }:Loop)=rec .ready none:=by rw [hrec]; rfl
  rw [e2] at this
  exact ⟨_,_,this,rfl,hR⟩
 | ret=>exact hp.elim
 | exit id=>exact hp.elim
 | goto t=>exact hp.elim
 | panic ch=>exact hp.elim
 | outgrown=>exact hp.elim
theorem range_on {n:Nat} {P:Program} {g:Operand} {ps:Array Tmp} {assign body:Code} {Q:Exit→Act→World→Prop} {a:Act} {w:World} (h1:1≤n) {gf:Nat} {lb:Array Value} (hg:a.eval g = .func (.func gf) #[] lb)
  (eg:∀ args w,(callFunc gf args).run P w = .ok (.enter gf args) w)
  (h:∀ (fn:Nat) (rec:LoopState→Option Code→Loop) (W1:World),rec=(fun st pe=>{ state:=st,pending:=pe,fn,tmps:=a.tmps,params:=ps,assign,body,defers:=w.heap.size }) →
   W1=(w.alloc (.deferred (some []))).alloc (.loop (rec .ready none)) →
   CallsIn Fence.wide (n-1) P gf (#[.func (.yield (w.heap.size+1)) #[] #[]]++lb) W1 fun e W2=>(∃ v,e = .returned v)∧W2.heap[w.heap.size+1]? = some (.loop (rec .ready none)) ∧
    Q .normal { a with defers:={ target:=.collected w.heap.size,args := #[] }::a.defers } (W2.putObj (w.heap.size+1) (.loop (rec .exhausted none)))) :
  (Code.rangeFunc g ps assign body).wp P Q a w:=by
 refine (wpIn_wide (n:=n)).1 ?_
 refine wpIn_rangeFunc ?_
 intro fn hfn
 obtain ⟨rec,hrec⟩:∃ rec:LoopState→Option Code→Loop,rec=fun st pe=>{ state:=st,pending:=pe,fn,tmps:=a.tmps,params:=ps,assign,body,defers:=w.heap.size }:=⟨_,rfl⟩
 obtain ⟨W1,hW1⟩:∃ W1,W1=(w.alloc (.deferred (some []))).alloc (.loop (rec .ready none)):=⟨_,rfl⟩
 refine ⟨w.heap.size+1,[{ target:=.collected w.heap.size,args := #[] }],W1, { target:=.fn (.func gf) lb,args := #[.func (.yield (w.heap.size+1)) #[] #[]] },W1,gf,
  #[.func (.yield (w.heap.size+1)) #[] #[]]++lb,W1,?_,?_,?_,?_,fun _=>h1,?_⟩
 ·rw [hW1,hrec]; exact run_enterLoop_outer _ _ _ _ _
 ·simp only [resolve,hg]
  simp [go_sem]
 ·intro f' _; trivial
 ·simp [invoke,go_sem,eg]
 ·refine (h fn rec W1 hrec hW1).mono ?_
  rintro e W2 ⟨⟨v,rfl⟩,hl,hQ⟩
  have:=run_endLoop (P:=P) hl (by rw [hrec]; simp)
  have e2:({ rec .ready none with state:=.exhausted }:Loop)=rec .exhausted none:=by rw [hrec]
  rw [e2] at this
  refine ⟨none,_,?_,hQ⟩
  rw [this,hrec]
theorem calls_of_wp_marked {P:Program} {f:FuncId} {fn:Func} {c:Code} {args:Array Value} {w:World} {R:Ending→World→Prop} (n:Nat) (hf:P.funcs[f]? = some fn) (hb:fn.body=some c)
  (h:c.wp P (bodyPostM Fence.wide n P fn R) { tmps:=args++Array.replicate (fn.ntmps-args.size) undef,defers:=[] } w):Calls P f args w R :=
 (callsIn_wide (n:=n)).1 (callsIn_of_wp_marks hf hb trivial (wpIn_wide.2 h) rfl)
def Onw (Q:Exit→Act→World→Prop):Exit→Act→World→Prop
 | .normal,a,w=>Q .normal a w
 | _,_,_=>False
end Go.Proofs.YtgkofgifoiinkaaGreat
