/- The statement StoreFull: pairs go in as long as there is room, and not one more; and all are there when it is opened again; no condition. -/
import Derived.Test.YtgkofgifoiinkaaGreatN43
import Derived.Deep.CutBlock
namespace Go.Proofs.YtgkofgifoiinkaaGreat
open Go.RowKit Go.Maps
theorem fresh_upto (k:Nat):Upto (fresh k) 0:=by
 intro i x hx
 unfold fresh at hx
 simp only at hx
 rw [List.getElem?_replicate] at hx
 split at hx
 ·cases hx
  exact Nat.le_refl _
 ·cases hx
def Writes1 (w:World) (a b:UInt8) (e:Ending) (w':World):Prop:=∃ kb kc vb vc,e = .returned (.agg #[.slice (some ⟨kb,0,none⟩) 1 kc, .slice (some ⟨vb,0,none⟩) 1 vc, .bool false])∧NewB w w' (.slice (some ⟨kb,0,none⟩) 1 kc) [a]∧NewB w w' (.slice (some ⟨vb,0,none⟩) 1 vc) [b]∧Below w.heap.size w w'
theorem w1_any (w:World) (a b:UInt8):Calls Tryz.prog 30 #[.string ⟨#[a]⟩, .string ⟨#[b]⟩] w (Writes1 w a b):=by
 refine (w_any w [a] [b] (by simp) (by simp)).mono ?_
 rintro e w4 ⟨k1,kc1,v1,vc1,rfl,b1,b2,n1,n2,hb4⟩
 exact ⟨k1,kc1,v1,vc1,rfl,⟨b1,fun q hq=>by cases hq; exact n1⟩,⟨b2,fun q hq=>by cases hq; exact n2⟩,hb4⟩
theorem NewB.from_later {w w1 w2:World} {v:Value} {l:Bytes} (h:NewB w1 w2 v l) (hb:w.heap.size≤w1.heap.size):NewB w w2 v l:=⟨h.1,fun q hq=>Nat.le_trans hb (h.2 q hq)⟩
theorem newB_lit (w:World) (c:UInt8):NewB w (w.alloc (.cells #[bv c] 5 (1,2))) (.slice (some ⟨w.heap.size,0,none⟩) 1 1) [c] :=
 ⟨bs_text w #[bv c] [c] 1 (1,2) rfl rfl (by simp),fun q hq=>by cases hq; exact Nat.le_refl _⟩
set_option maxRecDepth 100000 in
set_option maxHeartbeats 8000000 in
theorem stworks_any (w:World):Calls Tryz.prog 8 #[] w fun e w'=>e = .returned (.bool true)∧Below w.heap.size w w':=by
 have hcv:=fun (w:World) (C:Array Value) (n c:Nat)=>Lib.run_convert_bytes_const (P:=Tryz.prog) w 24 5 C n c Tryz.underlying24 Tryz.underlying5
 have hcs:=run_convert_second
 go_enter Tryz.func8,Tryz.ntmps8
 go_wp2_with fail
 refine (own_new 442 w (by omega) (by omega)).mono ?_
 rintro e w1 ⟨db,rfl,h⟩
 have hfon:(fresh 442).on=true:=rfl
 have hfl:(fresh 442).left < 0:=by decide
 have hfb:(fresh 442).bk.length=442:=by simp [fresh]
 have hfu:Upto (fresh 442) 0:=fresh_upto 442
 go_wp2_with fail
 refine (own_open_none h hfon (by omega) (fresh_loadS (by omega))).mono ?_
 rintro e w2 ⟨rfl,h2, -⟩
 clear h
 have P:=dsk_new h2 hfon hfl hfu (by omega) (by omega)
 rw [hfb] at P
 clear h2 hfon hfl hfb hfu
 go_wp2_with fail
 refine P.mono ?_
 rintro e w3 ⟨sb,D,rfl,h3,hl3,hb3⟩
 clear P
 have HL:=Lib.hid (anZ hl3 hb3)
 clear hl3 hb3
 go_wp2_with fail
 refine (w1_any w3 97 49).mono ?_
 rintro e w4 ⟨k1,kc1,v1,vc1,rfl,b1,b2,hb4⟩
 go_wp2_with fail
 refine (w1_any w4 98 50).mono ?_
 rintro e w5 ⟨k2,kc2,v2,vc2,rfl,b3,b4,hb5⟩
 have hb35:=hb4.trans (hb5.mono hb4.size)
 have R:=fun (T:Nat→Prop) (hT:∀ q,T q→q < w3.heap.size)=>two_rd (x:=⟨[97],[49],false⟩) (y:=⟨[98],[50],false⟩) hb35.size (b1.below hb5) (b2.below hb5) (b3.from_later hb4.size) (b4.from_later hb4.size) hT
 have P:=commit_two (l:=[⟨[97],[49],false⟩,⟨[98],[50],false⟩]) h3 (hb35.alloc hb35.size _) (by omega) (by omega) R (by simp) (by decide) (by rw [HL.out.2]; decide) HL.out.1
 clear R b1 b2 b3 b4 hb4 hb5 hb35 h3
 go_wp2_with fail
 refine P.mono ?_
 rintro e w6 ⟨rfl,D6,h6,hl6,hb6⟩
 have h6:Dsk w w6 sb db D6 [([97],[49]),([98],[50])] 4900 3 (fun _=>True):=h6
 have HL6:=Lib.hid (anZ hl6 (hb6.trans HL.out.2))
 clear P hl6 hb6 HL
 have P:=dsk_bytes h6
 have e12:(bytesP [([97],[49]),([98],[50])]:Nat)=12:=by decide
 rw [e12] at P
 clear e12
 go_wp2_with fail
 refine P.mono ?_
 rintro e w7 ⟨rfl,rfl⟩
 clear P
 have hlt:=below_text w6 #[.int .u8 97] (1,2)
 have hk:=(show NewB w6 (w6.alloc (.cells #[.int .u8 97] 5 (1,2))) (.slice (some ⟨w6.heap.size,0,none⟩) 1 1) [97] from newB_lit w6 97)
 go_wp2_with fail
 generalize w6.alloc (.cells #[.int .u8 97] 5 (1,2))=w7 at *
 refine (w1_any w7 97 51).mono ?_
 rintro e w8 ⟨k1,kc1,v1,vc1,rfl,b1,b2,hb8⟩
 have hb68:=hlt.trans (hb8.mono hlt.size)
 have R:=fun (T:Nat→Prop) (hT:∀ q,T q→q < w6.heap.size)=>two_rd (x:=⟨[97],[],true⟩) (y:=⟨[97],[51],false⟩) hb68.size (hk.below hb8) (NewB.nil w6 w8) (b1.from_later hlt.size) (b2.from_later hlt.size) hT
 have P:=commit_not (l:=[⟨[97],[],true⟩,⟨[97],[51],false⟩]) h6 (hb68.alloc hb68.size _) (by omega) (by omega) R (by simp) (by decide)
 generalize w6.heap.size=p6 at *
 clear R b1 b2 hb8 hb68 h6 hk hlt
 go_wp2_with fail
 refine P.mono ?_
 rintro e w9 ⟨rfl,h9⟩
 clear P
 have hlt:=below_text w9 #[.int .u8 97] (1,2)
 have hk:=(show NewB w9 (w9.alloc (.cells #[.int .u8 97] 5 (1,2))) (.slice (some ⟨w9.heap.size,0,none⟩) 1 1) [97] from newB_lit w9 97)
 go_wp2_with fail
 generalize w9.alloc (.cells #[.int .u8 97] 5 (1,2))=w10 at *
 refine (w1_any w10 99 51).mono ?_
 rintro e w11 ⟨k2,kc2,v2,vc2,rfl,b1,b2,hb8⟩
 have hb68:=hlt.trans (hb8.mono hlt.size)
 have R:=fun (T:Nat→Prop) (hT:∀ q,T q→q < w9.heap.size)=>two_rd (x:=⟨[97],[],true⟩) (y:=⟨[99],[51],false⟩) hb68.size (hk.below hb8) (NewB.nil w9 w11) (b1.from_later hlt.size) (b2.from_later hlt.size) hT
 have P:=commit_two (l:=[⟨[97],[],true⟩,⟨[99],[51],false⟩]) h9 (hb68.alloc hb68.size _) (by omega) (by omega) R (by simp) (by decide) (by rw [HL6.out.2]; decide) HL6.out.1
 generalize w9.heap.size=p9 at *
 clear R b1 b2 hb8 hb68 h9 hk hlt
 go_wp2_with fail
 refine P.mono ?_
 rintro e w12 ⟨rfl,D12,h12,hl12,hb12⟩
 have h12:Dsk w w12 sb db D12 [([98],[50]),([99],[51])] 9400 5 (fun _=>True):=h12
 have HL12:=Lib.hid (anZ hl12 (hb12.trans HL6.out.2))
 clear P hl12 hb12 HL6
 have hlt:=below_text w12 #[.int .u8 97] (1,2)
 have P:=dsk_get (h12.later hlt) (k:=[97]) (show Bs (w12.alloc (.cells #[.int .u8 97] 5 (1,2))) (.slice (some ⟨w12.heap.size,0,none⟩) 1 1) [97] from (newB_lit w12 97).1) (by unfold maxLen; decide)
 have eg:lookP [([98],[50]),([99],[51])] [97]=none:=by decide
 rw [eg] at P
 clear eg
 have h13:=h12.later hlt
 clear h12 hlt
 go_wp2_with fail
 refine P.mono ?_
 rintro e w13 ⟨gv,rfl, -,hb13⟩
 clear P
 have h14:=h13.later hb13
 clear h13 hb13
 have hlt:=below_text w13 #[.int .u8 99] (1,2)
 have P:=dsk_get (h14.later hlt) (k:=[99]) (show Bs (w13.alloc (.cells #[.int .u8 99] 5 (1,2))) (.slice (some ⟨w13.heap.size,0,none⟩) 1 1) [99] from (newB_lit w13 99).1) (by unfold maxLen; decide)
 have eg:lookP [([98],[50]),([99],[51])] [99]=some [51]:=by decide
 rw [eg] at P
 clear eg
 have h15:=h14.later hlt
 clear h14 hlt
 go_wp2_with fail
 refine P.mono ?_
 rintro e w14 ⟨cv,rfl,hbc,hb14⟩
 clear P
 have h16:=h15.later hb14
 clear h15 hb14
 obtain ⟨ca,cc,rfl,_⟩:=hbc.shape
 have k1':(convert 24 9 (.slice ca 1 cc)).run Tryz.prog w14 = .ok (.string ⟨#[51]⟩) w14:=run_string_bs bt (d:=9) Tryz.underlying9 w14 hbc
 have hon:=h16.on
 have P:=own_off h16.own
 have eo:ocode D12=0:=by unfold ocode; rw [if_neg (by rw [hon]; simp)]
 have eo2:odev D12=⟨D12.bk,false,D12.left⟩:=by unfold odev; rw [if_neg (by rw [hon]; simp)]
 rw [eo,eo2] at P
 have HD:=Lib.hid (anZ (h16.disk []) h16.upto)
 clear h16 hon eo eo2 hbc
 go_wp2_with fail
 refine P.mono ?_
 rintro e w15 ⟨rfl,h15⟩
 clear P k1'
 have P:=own_on h15 (n:=9400) HD.out.2 (by omega) (Iv.nil w)
 have en:ncode ⟨D12.bk,false,D12.left⟩=0:=rfl
 have en2:ndev ⟨D12.bk,false,D12.left⟩ []=⟨comes D12.bk [],true, -1⟩:=rfl
 rw [en,en2] at P
 clear h15 en en2
 go_wp2_with fail
 refine P.mono ?_
 rintro e w16 ⟨rfl,h16⟩
 clear P
 have P:=dsk_open h16 rfl (upto_comes 0) HD.out.1
 clear h16
 go_wp2_with fail
 refine P.mono ?_
 rintro e w17 ⟨sb2,rfl,h17⟩
 clear P
 have hl1:=below_text w17 #[.int .u8 98] (1,2)
 have hk1:=(show NewB w17 (w17.alloc (.cells #[.int .u8 98] 5 (1,2))) (.slice (some ⟨w17.heap.size,0,none⟩) 1 1) [98] from newB_lit w17 98)
 have hl2:=below_text (w17.alloc (.cells #[.int .u8 98] 5 (1,2))) #[.int .u8 99] (1,2)
 have hk2:=(show NewB (w17.alloc (.cells #[.int .u8 98] 5 (1,2))) ((w17.alloc (.cells #[.int .u8 98] 5 (1,2))).alloc (.cells #[.int .u8 99] 5 (1,2))) (.slice (some ⟨(w17.alloc (.cells #[.int .u8 98] 5 (1,2))).heap.size,0,none⟩) 1 1) [99] from newB_lit _ 99)
 have ez:(w17.alloc (.cells #[.int .u8 98] 5 (1,2))).heap.size=w17.heap.size+1:=by simp
 rw [ez] at hk2
 have hl12:=hl1.trans (hl2.mono hl1.size)
 have P:=dsk_scan (S:=fun _=>False) (h17.later hl12) (fun _ h=>h.elim) (hk1.1.below hl2) hk2.1
 have es:inSpan [98] [99] [([98],[50]),([99],[51])]=[([98],[50])]:=by decide
 rw [es] at P
 have hu:=h17.under.trans (hl12.mono h17.under.size)
 have HU:=Lib.hid hu
 clear es h17 hk1 hk2 ez hl1 hl2 hl12 hu
 go_wp2_with fail
 refine P.mono ?_
 rintro e w18 ⟨sv,rfl,hsv,hb18⟩
 clear P
 have hl1:=below_text w18 #[.int .u8 98] (1,2)
 have hk1:=(show NewB w18 (w18.alloc (.cells #[.int .u8 98] 5 (1,2))) (.slice (some ⟨w18.heap.size,0,none⟩) 1 1) [98] from newB_lit w18 98)
 have hl2:=below_text (w18.alloc (.cells #[.int .u8 98] 5 (1,2))) #[.int .u8 50] (1,2)
 have hk2:=(show NewB (w18.alloc (.cells #[.int .u8 98] 5 (1,2))) ((w18.alloc (.cells #[.int .u8 98] 5 (1,2))).alloc (.cells #[.int .u8 50] 5 (1,2))) (.slice (some ⟨(w18.alloc (.cells #[.int .u8 98] 5 (1,2))).heap.size,0,none⟩) 1 1) [50] from newB_lit _ 50)
 have ez:(w18.alloc (.cells #[.int .u8 98] 5 (1,2))).heap.size=w18.heap.size+1:=by simp
 have ez2:((w18.alloc (.cells #[.int .u8 98] 5 (1,2))).alloc (.cells #[.int .u8 50] 5 (1,2))).heap.size=w18.heap.size+2:=by simp
 rw [ez] at hk2
 have hl12:=hl1.trans (hl2.mono hl1.size)
 have hl13:Below w18.heap.size w18 (((w18.alloc (.cells #[.int .u8 98] 5 (1,2))).alloc (.cells #[.int .u8 50] 5 (1,2))).alloc (.cells #[.slice (some ⟨w18.heap.size,0,none⟩) 1 1, .slice (some ⟨w18.heap.size+1,0,none⟩) 1 1] 68)):=hl12.alloc hl12.size _
 have hlit:=rd_lit kdPr ((w18.alloc (.cells #[.int .u8 98] 5 (1,2))).alloc (.cells #[.int .u8 50] 5 (1,2))) 68 (fun _=>False) (fun _ h=>h.elim) [⟨⟨some ⟨w18.heap.size,0,none⟩,1,1⟩,⟨some ⟨w18.heap.size+1,0,none⟩,1,1⟩,([98],[50])⟩]
  #[.slice (some ⟨w18.heap.size,0,none⟩) 1 1, .slice (some ⟨w18.heap.size+1,0,none⟩) 1 1] rfl (fun t ht=>by
   rw [List.mem_singleton.1 ht]
   exact ⟨⟨hk1.1.below hl2,fun _ _ _ h=>h⟩,⟨hk2.1,fun _ _ _ h=>h⟩⟩) (by simp) (n:=1) rfl
 rw [ez2] at hlit
 have hlit:Rd kdPr (((w18.alloc (.cells #[.int .u8 98] 5 (1,2))).alloc (.cells #[.int .u8 50] 5 (1,2))).alloc (.cells #[.slice (some ⟨w18.heap.size,0,none⟩) 1 1, .slice (some ⟨w18.heap.size+1,0,none⟩) 1 1] 68)) (fun _=>False) (.slice (some ⟨w18.heap.size+2,0,none⟩) 1 1) [([98],[50])]:=hlit
 have P:=psame_any _ (hsv.step (Step.of_below hl13 _)) hlit (fun p hp=>by rw [List.mem_singleton.1 hp]; simp) (fun p hp=>by rw [List.mem_singleton.1 hp]; simp)
 rw [decide_eq_true rfl] at P
 have HU18:=Lib.hid (HU.out.trans ((hb18.trans (hl13.mono hb18.size)).mono HU.out.size))
 clear hlit hsv hb18 hl1 hl2 hl12 hl13 hk1 hk2 ez ez2 HU
 go_wp2_with fail
 refine P.mono ?_
 rintro e w19 ⟨rfl,hb19⟩
 clear P
 have r1:((roomN 441:Nat):Int)=0:=by decide
 have r2:((roomN 442:Nat):Int)=7781:=by decide
 have r3:((roomN 3000:Nat):Int)=264554:=by decide
 have R1:=room_any 441 w19 (by omega)
 have R2:=room_any 442 w19 (by omega)
 have R3:=room_any 3000 w19 (by omega)
 rw [r1] at R1
 rw [r2] at R2
 rw [r3] at R3
 clear r1 r2 r3
 go_wp2_with fail
 refine R1.mono ?_
 rintro e w20 ⟨rfl,rfl⟩
 go_wp2_with fail
 refine R2.mono ?_
 rintro e w20 ⟨rfl,rfl⟩
 go_wp2_with fail
 refine R3.mono ?_
 rintro e w20 ⟨rfl,rfl⟩
 go_wp2
 go_ret
 exact ⟨rfl,HU18.out.trans (hb19.mono HU18.out.size)⟩
end Go.Proofs.YtgkofgifoiinkaaGreat
namespace Go.Proofs.YtgkofgifoiinkaaGreat
open Go.RowKit Go.Maps
theorem bs_litF (w:World) (cs:Array Value) (l:List UInt8) (n:Nat) (h:cs=(bvs l).toArray) (hn:n=l.length) (hm:l.length≤1000) :
  Bs (w.alloc (.cells cs 5)) (.slice (some ⟨w.heap.size,0,none⟩) n n) l:=by
 subst h; subst hn
 exact (Ow.lit w w.heap.size 5 l (Nat.le_refl _) (by unfold maxLen; omega)).bs
theorem below_litF (w:World) (cs:Array Value):Below w.heap.size w (w.alloc (.cells cs 5)):=(Below.refl _ _).alloc (Nat.le_refl _) _
theorem wf_u8F {n:Int} (h:(Lit.int .u8 n).wf=true):∃ m:Nat,n=(m:Int)∧m < 256:=by
 obtain ⟨h1,h2⟩:=bounds_u8 h
 obtain ⟨m,rfl⟩:=Int.eq_ofNat_of_zero_le h1
 exact ⟨m,rfl,by omega⟩
def kf (k s:Nat):Bytes:=[UInt8.ofNat (k / 256),UInt8.ofNat k,UInt8.ofNat (k*s)]
theorem kf_inj {i j s:Nat} (hi:i < 800) (hj:j < 800) (h:kf i s=kf j s):i=j:=by
 unfold kf at h
 simp only [List.cons.injEq,and_true] at h
 have h1:=congrArg UInt8.toNat h.1
 have h2:=congrArg UInt8.toNat h.2.1
 simp only [UInt8.toNat_ofNat'] at h1 h2
 omega
def ixF (back:Bool) (r:Nat):Nat:=if back=true then 799-r else r
theorem ixF_lt {back:Bool} {r:Nat} (h:r < 800):ixF back r < 800:=by
 unfold ixF
 split <;> omega
theorem ixF_inj {back:Bool} {i j:Nat} (hi:i < 800) (hj:j < 800) (h:ixF back i=ixF back j):i=j:=by
 unfold ixF at h
 split at h <;> omega
theorem bytesP_all {n:Nat}:∀ {P:List Pr},(∀ p∈P,4+p.1.length+p.2.length=n)→bytesP P=n*P.length
 | [],_=>by simp [bytesP]
 | p::r,h=>by
  have h1:=h p List.mem_cons_self
  have h2:=bytesP_all (P:=r) fun q hq=>h q (List.mem_cons_of_mem _ hq)
  rw [bytesP_cons,h2,List.length_cons,Nat.mul_succ]
  omega
def Fl (P:List Pr) (n s:Nat) (back:Bool) (r:Nat):Prop:=∀ p∈P,p.1.length=3∧p.2.length=n-7∧∃ j,j < r∧p.1=kf (ixF back j) s
theorem Fl.more {P:List Pr} {n s r:Nat} {back:Bool} (h:Fl P n s back r):Fl P n s back (r+1):=fun p hp=>let ⟨h1,h2,j,h3,h4⟩:=h p hp; ⟨h1,h2,j,by omega,h4⟩
theorem Fl.bytes {P:List Pr} {n s r:Nat} {back:Bool} (h:Fl P n s back r) (hn:8≤n):bytesP P=n*P.length:=bytesP_all fun p hp=>by
 have h1:=h p hp
 omega
theorem Fl.put {P:List Pr} {n s r:Nat} {back:Bool} (h:Fl P n s back r) (hr:r < 800) (hn:8≤n) (hri:RiseP P) :
  Fl (putP P (kf (ixF back r) s) (List.replicate (n-7) 0)) n s back (r+1)∧(putP P (kf (ixF back r) s) (List.replicate (n-7) 0)).length=P.length+1:=by
 have h1:Fl (putP P (kf (ixF back r) s) (List.replicate (n-7) 0)) n s back (r+1):=by
  intro p hp
  rcases mem_putP hp with rfl | hp
  ·exact ⟨rfl,by simp,r,by omega,rfl⟩
  ·exact h.more p hp
 refine ⟨h1,?_⟩
 have hno:lookP P (kf (ixF back r) s)=none:=lookP_none fun p hp e=>by
  obtain ⟨_,_,j,h3,h4⟩:=h p hp
  rw [h4] at e
  have:=ixF_inj (by omega) hr (kf_inj (ixF_lt (by omega)) (ixF_lt hr) e)
  omega
 have hb:=bytesP_put (k:=kf (ixF back r) s) (v:=List.replicate (n-7) (0:UInt8)) hri
 have hw:wasN P (kf (ixF back r) s)=0:=by
  unfold wasN
  rw [hno]
 rw [hw,h1.bytes hn,h.bytes hn] at hb
 have hk:(kf (ixF back r) s).length=3:=rfl
 rw [hk,List.length_replicate] at hb
 have h5:n*(putP P (kf (ixF back r) s) (List.replicate (n-7) 0)).length=n*(P.length+1):=by
  rw [Nat.mul_succ]
  omega
 exact Nat.eq_of_mul_eq_mul_left (by omega) h5
section
variable {w0 w w':World} {sb db n m:Nat} {D:Dv} {P:List Pr} {Q:World→Prop}
theorem Dsk.fresh0 (h:Dsk w0 w sb db D P n m Q):Dsk w0 w sb db D P 0 m Q:=by
 obtain ⟨T,K,⟨pb,tb,jb,mb,ps,J,g,F,G,h1,e,pg,a,s,P0,pgs,C,k1,k2,k3,k4,k5,k6,k7⟩,h3⟩:=h
 exact ⟨T,K,⟨pb,tb,jb,mb,ps,J,g,F,G,h1,e,pg,a,s,P0,pgs,C,k1,k2,k3,⟨k4.fit,fun i x hx=>by rw [k4.clean i x hx]; exact Nat.le_refl _,k4.on,k4.live,k4.clean,k4.holds,k4.spot,k4.held,k4.short⟩,k5,k6,k7⟩,h3⟩
def Alive (W:World) (sb:Nat) (P:List Pr):Prop:=∃ dv pv tv jv g mb,StC W sb dv pv tv jv g mb (bytesP P:Nat) false∧SMap W mb P
theorem Dsk.told (h:Dsk w0 w sb db D P n m Q):Own w0 w db D (fun W=>Q W∧Alive W sb P):=by
 obtain ⟨T,K,⟨pb,tb,jb,mb,ps,J,g,F,G,h1,e,hL⟩,h2,h3,h4,h5⟩:=h
 have hs:T sb:=by rw [e]; exact .inl (.inl rfl)
 have hm:T mb:=by rw [e]; exact .inl (.inr (.inl rfl))
 have hl:=StT.lt (A:=fun ps J g=>Lv D ps J g P n m) ⟨pb,tb,jb,mb,ps,J,g,F,G,h1,e,hL⟩
 refine ⟨F,fun q=>K q∨q=sb∨q=mb,h1.b.dev,fun q hq=>h2 q (by rw [e]; exact .inl (.inr (.inr (.inl hq)))),h3,fun q hq=>?_,fun W hW=>⟨h5 W fun q hq=>hW q (.inl hq),_,_,_,_,_,_,h1.b.top.kept (hW sb (.inr (.inl rfl))),h1.b.map.kept (hW mb (.inr (.inr rfl)))⟩⟩
 rcases hq with hq | rfl | rfl
 ·exact ⟨(h4 q hq).1,fun hf=>(h4 q hq).2 (by rw [e]; exact .inl (.inr (.inr (.inl hf))))⟩
 ·exact ⟨hl _ hs,fun hf=>(h1.b.fo _ hf).1 rfl⟩
 ·exact ⟨hl _ hm,fun hf=>(h1.b.fo _ hf).2.2 rfl⟩
theorem Dsk.fine (h:Dsk w0 w sb db D P n m Q):okUp P∧P.length≤100000:=⟨h.parts.1,h.parts.2.1⟩
theorem one_rd {w1:World} {ka kv:Option Addr} {kn kc vn vc:Nat} {x:Wr} (hw:w.heap.size≤w1.heap.size) (h1:NewB w w1 (.slice ka kn kc) x.key) (h2:NewB w w1 (.slice kv vn vc) x.val)
  {T:Nat→Prop} (hT:∀ q,T q→q < w.heap.size) :
  Rd kdWr (w1.alloc (.cells #[.slice ka kn kc, .slice kv vn vc, .bool x.gone] 61)) T (.slice (some ⟨w1.heap.size,0,none⟩) 1 1) [x]:=by
 have:=rd_lit kdWr w1 61 T (fun q hq=>Nat.lt_of_lt_of_le (hT q hq) hw) [⟨⟨ka,kn,kc⟩,⟨kv,vn,vc⟩,x⟩]
  #[.slice ka kn kc, .slice kv vn vc, .bool x.gone] rfl (fun t ht=>?_) (by simp) (n:=1) rfl
 ·exact this
 ·rw [List.mem_singleton.1 ht]
  exact ⟨h1.bsf hT,h2.bsf hT⟩
theorem commit_or {lv:Value} {l:List Wr} (h:Dsk w0 w sb db D P 0 m Q) (hb:Below w.heap.size w w') (hm:m+2≤4000000) (hl:∀ T:Nat→Prop,(∀ q,T q→q < w.heap.size)→Rd kdWr w' T lv l)
  (hln:l.length≤1000) (hok:ComOk l) (hlf:D.left < 0) :
  Calls Tryz.prog 13 #[ptr sb,lv] w' fun e w2=>(bytesP (doneC P l)≤roomN D.bk.length∧e = .returned (err 0)∧∃ D',Dsk w0 w2 sb db D' (doneC P l) 0 (m+2) Q∧D'.left < 0∧D'.bk.length=D.bk.length) ∨
   (roomN D.bk.length < bytesP (doneC P l)∧e = .returned (err 7)∧Dsk w0 w2 sb db D P 0 m Q):=by
 refine (dsk_commit h hb (by omega) hm hl (by omega)).mono ?_
 rintro e w2 (⟨k1,_⟩ | ⟨_,k2,_⟩ | ⟨_,_,k3,rfl,k4⟩ | ⟨_,_,k0,(⟨rfl,D',h1,h2,h3⟩ | ⟨_,_,_,k4,_⟩)⟩)
 ·omega
 ·exact absurd hok k2
 ·exact .inr ⟨k3,rfl,k4⟩
 ·exact .inl ⟨k0,rfl,D',h1.fresh0,h2 hlf,h3⟩
 ·exact absurd hlf k4
theorem check_ok (h:Dsk w0 w sb db D P 0 m Q) (hm:m+1≤4000000) (hlf:D.left < 0) :
  Calls Tryz.prog 16 #[ptr sb] w fun e w'=>e = .returned (err 0)∧∃ D',Dsk w0 w' sb db D' P 0 (m+1) Q∧D'.left < 0∧D'.bk.length=D.bk.length:=by
 refine (dsk_check h (by omega) hm).mono ?_
 rintro e w2 (⟨rfl,D',h1,h2,h3⟩ | ⟨_,_,_,k4,_⟩)
 ·exact ⟨rfl,D',h1.fresh0,h2 hlf,h3⟩
 ·exact absurd hlf k4
end
end Go.Proofs.YtgkofgifoiinkaaGreat
namespace Go.Proofs.YtgkofgifoiinkaaGreat
open Go.RowKit Go.Maps
set_option maxRecDepth 100000 in
set_option maxHeartbeats 8000000 in
theorem storeFull_any (st sz:Nat) (back:Bool) (w:World) (hst:st < 256) (hsz:sz < 256):Calls Tryz.prog 5 #[.int .u8 (st:Nat), .int .u8 (sz:Nat), .bool back] w fun e w'=>e = .returned (.bool true)∧Below w.heap.size w w':=by
 have hcv:=fun (w:World) (C:Array Value) (n c:Nat)=>Lib.run_convert_bytes_const (P:=Tryz.prog) w 24 5 C n c Tryz.underlying24 Tryz.underlying5
 obtain ⟨r0,hr0⟩:∃ r0,sz % 128=r0:=⟨_,rfl⟩
 have hmod:(sz:Int).tmod 128=(r0:Int):=by rw [Int.tmod_eq_emod_of_nonneg (by omega)]; omega
 obtain ⟨n,hn⟩:∃ n,n=r0+8:=⟨_,rfl⟩
 have hni:(r0:Int)+8=(n:Int):=by omega
 have h00:(0:Int)≤(r0:Int):=by omega
 have h01:(r0:Int)≤127:=by omega
 have hs0:(0:Int)≤(sz:Int):=by omega
 have hs1:(sz:Int)≤255:=by omega
 have ht0:(0:Int)≤(st:Int):=by omega
 have ht1:(st:Int)≤255:=by omega
 have hn8:8≤n∧n≤135:=by omega
 clear hr0 hn hst hsz
 go_enter Tryz.func5,Tryz.ntmps5
 go_wp2_with fail
 refine (own_new 442 w (by omega) (by omega)).mono ?_
 rintro e w1 ⟨db,rfl,h⟩
 have hfb:(fresh 442).bk.length=442:=by simp [fresh]
 have P:=dsk_new h rfl (by decide) (fresh_upto 442) (by omega) (by omega)
 rw [hfb] at P
 clear h hfb
 go_wp2_with fail
 refine P.mono ?_
 rintro e w3 ⟨sb,D,rfl,h3,hl3,hb3⟩
 clear P
 have r2:((roomN 442:Nat):Int)=7781:=by decide
 have R2:=room_any 442 w3 (by omega)
 rw [r2] at R2
 clear r2
 have HS:=Lib.hid (anZ h3.fresh0 (anZ hl3 hb3))
 clear h3 hl3 hb3
 go_wp2_with fail
 refine R2.mono ?_
 rintro e w4 ⟨rfl,rfl⟩
 clear R2
 go_wp2
 go_loopw [13,14] (fun t13 t14 wr=>∃ (r c m:Nat) (P:List Pr) (D:Dv),t13 = .int .i64 (c:Int)∧t14 = .int .i64 (r:Int)∧r≤800∧c≤r∧P.length=c∧Fl P n st back r∧m≤3*r+1∧Dsk w wr sb db D P 0 m (fun _=>True)∧D.left < 0∧D.bk.length=442) (fun _ t14 _=>800-(intOf t14).toNat)
 case atStart=>exact ⟨0,0,1,[],D,rfl,rfl,by omega,by omega,rfl,fun p hp=>by simp at hp,by omega,HS.out.1,HS.out.2.1,HS.out.2.2⟩
 case round =>
  obtain ⟨r,c,m,P,D,rfl,rfl,hr,hcr,hPl,hFl,hm,hD,hlf,hbk⟩:=hrel
  by_cases hlt:r < 800
  ·have hil:(r:Int) < 800:=by omega
   have hri:(0:Int)≤(r:Int):=by omega
   obtain ⟨ix,hix⟩:∃ ix,ixF back r=ix:=⟨_,rfl⟩
   have hixl:ix < 800:=by rw [← hix]; exact ixF_lt hlt
   have HP:=Lib.hid (anZ hlt (anZ hcr (anZ hPl (anZ hFl (anZ hm (anZ hD (anZ hlf (anZ hbk hix))))))))
   clear hlt hcr hPl hFl hm hD hlf hbk hr
   go_upto_if 50 with fail
   go_cut [15] from 49 to 53 (fun t15 wx=>t15 = .int .i64 (ix:Int)∧wr=wx)
   case first =>
    have hix:=HP.out.2.2.2.2.2.2.2.2
    unfold ixF at hix
    cases back with
    | true =>
     have h9:(799:Int)-(r:Int)=(ix:Int):=by
      rw [if_pos rfl] at hix
      omega
     clear hix
     go_wp2_with fail
     go_meet
     case rel=>exact ⟨rfl,rfl⟩
    | false =>
     rw [if_neg (by simp)] at hix
     subst hix
     go_wp2_with fail
     go_meet
     case rel=>exact ⟨rfl,rfl⟩
   case rest =>
    obtain ⟨rfl,rfl⟩:=hcut
    obtain ⟨q,hq⟩:∃ q,ix / 256=q:=⟨_,rfl⟩
    obtain ⟨b1,hb1⟩:∃ b1,ix % 256=b1:=⟨_,rfl⟩
    obtain ⟨pr,hpr⟩:∃ pr,ix*st=pr:=⟨_,rfl⟩
    obtain ⟨b2,hb2⟩:∃ b2,pr % 256=b2:=⟨_,rfl⟩
    have hprb:pr≤203745:=by
     rw [← hpr]
     have:=Nat.mul_le_mul (show ix≤799 by omega) (show st≤255 by omega)
     omega
    have i0:(0:Int)≤(ix:Int):=by omega
    have i1:(ix:Int)≤799:=by omega
    have eq1:(ix:Int) / 256=(q:Int):=by omega
    have eq2:(ix:Int) / 2 ^ 8=(q:Int):=by omega
    have q0:(0:Int)≤(q:Int):=by omega
    have q1:(q:Int)≤3:=by omega
    have ep:(ix:Int)*(st:Int)=(pr:Int):=by rw [← hpr]; simp
    have p0:(0:Int)≤(pr:Int):=by omega
    have p1:(pr:Int)≤203745:=by omega
    have ew1:IntKind.u8.wrap (ix:Int)=(b1:Int):=by rw [IntKind.wrap_u8]; omega
    have ew2:IntKind.u8.wrap (pr:Int)=(b2:Int):=by rw [IntKind.wrap_u8]; omega
    have ew3:IntKind.u8.wrap (q:Int)=(q:Int):=by rw [IntKind.wrap_u8]; omega
    obtain ⟨W1,hW1⟩:∃ W1,W1=wr.alloc (.cells #[.int .u8 (q:Int), .int .u8 (b1:Int), .int .u8 (b2:Int)] 5):=⟨_,rfl⟩
    have hbW1:Below wr.heap.size wr W1:=by rw [hW1]; exact below_litF wr _
    have hkB:NewB wr W1 (.slice (some ⟨wr.heap.size,0,none⟩) 3 3) (kf ix st):=by
     refine ⟨?_,fun q hq=>by cases hq; exact Nat.le_refl _⟩
     rw [hW1]
     refine bs_litF wr _ (kf ix st) 3 ?_ rfl (by simp [kf])
     have z1:(UInt8.ofNat (ix / 256)).toNat=q:=by rw [UInt8.toNat_ofNat',hq]; omega
     have z2:(UInt8.ofNat ix).toNat=b1:=by rw [UInt8.toNat_ofNat']; exact hb1
     have z3:(UInt8.ofNat (ix*st)).toNat=b2:=by rw [UInt8.toNat_ofNat',hpr]; exact hb2
     simp only [kf,bvs,List.map_cons,List.map_nil,bv,z1,z2,z3]
    obtain ⟨n7,hn7⟩:∃ n7,n-7=n7:=⟨_,rfl⟩
    have en7:(n:Int)-7=(n7:Int):=by omega
    have n70:(0:Int)≤(n7:Int):=by omega
    have n71:(n7:Int)≤128:=by omega
    obtain ⟨W2,hmk,oW,gW⟩:=run_zeros_bs bt W1 W1.heap.size .i64 .i64 n7 (by omega) (Nat.le_refl _)
    have hbW2:Below W1.heap.size W1 W2:=(Below.refl _ _).grown gW (Nat.le_refl _) (fun _ h=>by cases h)
    have hb12:=hbW1.trans (hbW2.mono hbW1.size)
    have hvB:NewB wr W2 (.slice (some ⟨W1.heap.size,0,none⟩) n7 n7) (List.replicate n7 0):=⟨oW.bs,fun q hq=>by cases hq; exact hbW1.size⟩
    have R:=fun (T:Nat→Prop) (hT:∀ q,T q→q < wr.heap.size)=>one_rd (x:=⟨kf ix st,List.replicate n7 0,false⟩) hb12.size (hkB.below hbW2) hvB hT
    obtain ⟨hlt,hcr,hPl,hFl,hm,hD,hlf,hbk,hix⟩:=HP.out
    have hok:ComOk [(⟨kf ix st,List.replicate n7 0,false⟩:Wr)]:=by
     refine ⟨fun x hx=>?_,by simp⟩
     rw [List.mem_singleton.1 hx]
     refine ⟨⟨by simp [kf],?_⟩,fun h=>by cases h⟩
     rw [List.length_replicate]
     omega
    have PC:=commit_or hD (hb12.alloc hb12.size _) (by omega) R (by simp) hok hlf
    have hput:=hFl.put hlt hn8.1 hD.fine.1.2
    rw [hix,hn7] at hput
    have hdc:doneC P [(⟨kf ix st,List.replicate n7 0,false⟩:Wr)]=putP P (kf ix st) (List.replicate n7 0):=rfl
    have hby:=hput.1.bytes hn8.1
    rw [hdc,hbk,hby,hput.2,hPl] at PC
    obtain ⟨pn,hpn⟩:∃ pn,n*(c+1)=pn:=⟨_,rfl⟩
    have epn:((c:Int)+1)*(n:Int)=(pn:Int):=by rw [← hpn,Nat.mul_comm]; simp
    have hpnb:pn≤200000:=by
     rw [← hpn]
     have:=Nat.mul_le_mul hn8.2 (show c+1≤800 by omega)
     omega
    have pn0:(0:Int)≤(pn:Int):=by omega
    have pn1:(pn:Int)≤200000:=by omega
    have c0:(0:Int)≤(c:Int):=by omega
    have c1:(c:Int)≤800:=by omega
    rw [hpn,show roomN 442=7781 by decide] at PC
    obtain ⟨d,hd⟩:∃ d,20+st=d:=⟨_,rfl⟩
    have ed:(20:Int)+(st:Int)=(d:Int):=by omega
    have d0:¬ (d:Int)=0:=by omega
    obtain ⟨q2,hq2⟩:∃ q2,r % d=q2:=⟨_,rfl⟩
    have eq3:(r:Int).tmod (d:Int)=(q2:Int):=by rw [Int.tmod_eq_emod_of_nonneg (by omega)]; omega
    have HR:=Lib.hid (anZ hput (anZ hn7 (anZ hPl (anZ hFl (anZ hm (anZ hlt (anZ hcr (anZ hlf hbk))))))))
    clear hlt hcr hPl hFl hm hD hlf hbk hix hput hdc hby hok R hvB hkB hb12 hbW1 hbW2 oW gW hq hb1 hb2 hpr hpn hd hprb hpnb hn7 hq2 HP
    go_wp2_with fail
    rw [← hW1,hmk]
    clear hmk hW1
    go_wp2_with fail
    refine PC.mono ?_
    clear PC
    rintro e w5 (⟨k1,rfl,D5,h5,hl5,hb5⟩ | ⟨k1,rfl,h5⟩)
    ·skip
     have hle:(pn:Int)≤7781:=by omega
     have H5:=Lib.hid (anZ h5 (anZ hl5 hb5))
     clear h5 hl5 hb5 k1
     by_cases hz:q2=0
     ·subst hz
      have PK:=check_ok H5.out.1 (by have:=HR.out; omega) H5.out.2.1
      go_wp2_with fail
      refine PK.mono ?_
      rintro e w6 ⟨rfl,D6,h6,hl6,hb6⟩
      have H6:=Lib.hid (anZ h6 (anZ hl6 hb6))
      clear PK h6 hl6 hb6
      go_wp2
      go_roundw
      case rel=>exact ⟨r+1,c+1,m+2+1,_,D6,by go_num,by go_num,by have:=HR.out; omega,by have:=HR.out; omega,by rw [HR.out.1.2,HR.out.2.2.1],HR.out.1.1,by have:=HR.out; omega,H6.out.1,H6.out.2.1,H6.out.2.2.trans H5.out.2.2⟩
      case measure =>
       have:=HR.out
       simp only [intOf]
       omega
     ·have hz':¬ (q2:Int)=0:=by omega
      go_wp2
      go_roundw
      case rel=>exact ⟨r+1,c+1,m+2,_,_,by go_num,by go_num,by have:=HR.out; omega,by have:=HR.out; omega,by rw [HR.out.1.2,HR.out.2.2.1],HR.out.1.1,by have:=HR.out; omega,H5.out.1,H5.out.2.1,H5.out.2.2⟩
      case measure =>
       have:=HR.out
       simp only [intOf]
       omega
    ·skip
     have hle:¬ (pn:Int)≤7781:=by omega
     have H5:=Lib.hid (anZ h5 (anZ HR.out.2.2.2.2.2.2.2.1 HR.out.2.2.2.2.2.2.2.2))
     clear h5 k1
     by_cases hz:q2=0
     ·subst hz
      have PK:=check_ok H5.out.1 (by have:=HR.out; omega) H5.out.2.1
      go_wp2_with fail
      refine PK.mono ?_
      rintro e w6 ⟨rfl,D6,h6,hl6,hb6⟩
      have H6:=Lib.hid (anZ h6 (anZ hl6 hb6))
      clear PK h6 hl6 hb6
      go_wp2
      go_roundw
      case rel=>exact ⟨r+1,c,m+1,_,D6,rfl,by go_num,by have:=HR.out; omega,by have:=HR.out; omega,HR.out.2.2.1,HR.out.2.2.2.1.more,by have:=HR.out; omega,H6.out.1,H6.out.2.1,H6.out.2.2.trans H5.out.2.2⟩
      case measure =>
       have:=HR.out
       simp only [intOf]
       omega
     ·have hz':¬ (q2:Int)=0:=by omega
      go_wp2
      go_roundw
      case rel=>exact ⟨r+1,c,m,_,_,rfl,by go_num,by have:=HR.out; omega,by have:=HR.out; omega,HR.out.2.2.1,HR.out.2.2.2.1.more,by have:=HR.out; omega,H5.out.1,H5.out.2.1,H5.out.2.2⟩
      case measure =>
       have:=HR.out
       simp only [intOf]
       omega
  ·have hre:r=800:=by omega
   subst hre
   have hil:¬ ((800:Nat):Int) < 800:=by omega
   have hby:=hFl.bytes hn8.1
   rw [hPl] at hby
   obtain ⟨bn,hbn⟩:∃ bn,n*c=bn:=⟨_,rfl⟩
   have ebn:(c:Int)*(n:Int)=(bn:Int):=by rw [← hbn,Nat.mul_comm]; simp
   have hbnb:bn≤200000:=by
    rw [← hbn]
    have:=Nat.mul_le_mul hn8.2 hcr
    omega
   have bn0:(0:Int)≤(bn:Int):=by omega
   have bn1:(bn:Int)≤200000:=by omega
   have PB:=dsk_bytes hD
   rw [hby,hbn] at PB
   have PC:=check_ok hD (by omega) hlf
   have hsm:∀ p∈P,p.1.length≤1000∧p.2.length≤1000:=fun p hp=>by
    have:=hFl p hp
    omega
   have HR:=Lib.hid (anZ hsm hPl)
   clear hr hlt hby hbn hbnb hm hFl hPl hsm hD hlf hbk hcr
   go_wp2_with fail
   refine PB.mono ?_
   rintro e w5 ⟨rfl,rfl⟩
   clear PB
   go_wp2_with fail
   refine PC.mono ?_
   rintro e w6 ⟨rfl,D6,h6, -, -⟩
   clear PC
   have PO:=dsk_open h6.told h6.on h6.upto h6.still
   have HO:=Lib.hid h6.fine
   clear h6
   go_wp2_with fail
   refine PO.mono ?_
   rintro e w7 ⟨s2,rfl,h7⟩
   clear PO
   obtain ⟨_,_,_,_,_,_,a1,a2⟩:=h7.now.2
   have PS1:=sscan_any (S:=fun _=>False) a1 a2 HO.out.1.1 (by have:=HO.out.2; omega) (fun _ h=>h.elim) (Bs.nil w7) (Bs.nil w7)
   rw [inSpan_all] at PS1
   have H7:=Lib.hid h7
   clear a1 a2 h7
   go_wp2_with fail
   refine PS1.mono ?_
   rintro e w8 ⟨v1,rfl,hv1,hb8⟩
   clear PS1
   have h8:=H7.out.later hb8
   have PS2:=dsk_scan (S:=fun _=>False) h8 (fun _ h=>h.elim) (Bs.nil w8) (Bs.nil w8)
   rw [inSpan_all] at PS2
   have HU:=Lib.hid h8.under
   clear h8 H7 hb8
   go_wp2_with fail
   refine PS2.mono ?_
   rintro e w9 ⟨v2,rfl,hv2,hb9⟩
   clear PS2
   have hv1':=hv1.step (Step.of_below hb9 _)
   obtain ⟨va,vc,rfl, -⟩:=hv1.shape
   rw [HR.out.2] at hv1'
   have PE:=psame_any w9 hv1' hv2 HR.out.1 HR.out.1
   rw [decide_eq_true rfl, ] at PE
   have HB:=Lib.hid (HU.out.trans (hb9.mono HU.out.size))
   have hPl:=HR.out.2
   rw [hPl]
   clear hv1 hv2 hb9 hv1' hPl
   go_wp2_with fail
   refine PE.mono ?_
   rintro e w10 ⟨rfl,hb10⟩
   clear PE
   go_wp2_with fail
   refine (stworks_any w10).mono ?_
   rintro e w11 ⟨rfl,hb11⟩
   go_wp2
   go_ret
   have hz:=HB.out.trans (hb10.mono HB.out.size)
   exact ⟨rfl,hz.trans (hb11.mono hz.size)⟩
end Go.Proofs.YtgkofgifoiinkaaGreat
