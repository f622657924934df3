/- Load of package shadow: what it answers of a device of whatever content; condition: the device lies in memory, or the pointer is nil. -/
import Derived.Test.YtgkofgifoiinkaaGreatN32
import Derived.Test.YtgkofgifoiinkaaGreatN02
import Derived.Test.YtgkofgifoiinkaaGreatN19
import Derived.Test.YtgkofgifoiinkaaGreatN06
import Derived.Test.YtgkofgifoiinkaaGreatN04
import Derived.Test.YtgkofgifoiinkaaGreatN11
namespace Go.Proofs.YtgkofgifoiinkaaGreat
open Go.RowKit
def GwB (w:World) (base:Nat) (v:Value) (l:Bytes):Prop:=Ow w base 5 v l∨∃ g,v = .slice (some ⟨g,0,none⟩) l.length l.length∧base≤g∧g < w.heap.size∧Bs w v l
theorem GwB.bs {w:World} {base:Nat} {v:Value} {l:Bytes} (h:GwB w base v l):Bs w v l:=h.elim Ow.bs fun ⟨_,_,_,_,h⟩=>h
theorem GwB.own {w:World} {base:Nat} {v:Value} {l:Bytes} (h:GwB w base v l):∀ q,v.ownBlock=some q→base≤q∧q < w.heap.size:=fun q hq=>by
 rcases h with h | ⟨g,rfl,h1,h2,_⟩
 ·exact World.ownsRow.lt h q hq
 ·cases hq
  exact ⟨h1,h2⟩
theorem GwB.below {w w':World} {base:Nat} {v:Value} {l:Bytes} (h:GwB w base v l) (hb:Below w.heap.size w w'):GwB w' base v l:=by
 rcases h with h | ⟨g,e,h1,h2,h3⟩
 ·exact .inl (h.below hb)
 ·exact .inr ⟨g,e,h1,Nat.lt_of_lt_of_le h2 hb.size,h3.below hb⟩
theorem run_append_gw (w:World) (base:Nat) (ty:TypeId) {v x:Value} {l:Bytes} {c:UInt8} (hv:GwB w base v l) (hx:Bs w x [c]) (hn:l.length≤1000000) (hbase:base≤w.heap.size) :
  ∃ v' w',(Builtin.append_ #[24,24] ty #[v,x]).run Tryz.prog w = .ok v' w'∧GwB w' base v' (l++[c])∧Below base w w'∧∀ q cs t,t≠5→Cel w q cs t→Cel w' q cs t:=by
 rcases hv with hv | ⟨g,rfl,h1,h2,h3⟩
 ·obtain ⟨v',w',r1,r2,r3⟩:=run_append_bs bt w base ty hv hx (by simp; omega) hbase
  exact ⟨v',w',r1, .inl r2,(Below.refl _ _).grown r3 hbase (fun k hk=>(World.ownsRow.lt hv k hk).1),fun q cs t ht hc=>hc.grown r3 (hv.apart hc ht)⟩
 ·obtain ⟨i,hi,hz,hs,hby⟩:=bt.parts
  obtain ⟨a,cap,rfl,k1,k2,k3,k4⟩:=hx
  rcases a with _ | a
  ·have:=k3 rfl; simp at k1; omega
  ·obtain ⟨a',cap',e,g1,g2,g3,g4⟩:=h3
   simp only [Value.slice.injEq] at e
   obtain ⟨rfl, -,rfl⟩:=e
   have hr:=run_append_grow (P:=Tryz.prog) w 24 ty 5 i (.int .u8 0) bt.slice hi hz ⟨g,0,none⟩ l.length l.length (bvs l) (by rw [hs]; simp [bvs]) (g4 _ rfl) a 1 cap (bvs [c]) (by rw [hs]; rfl) (k4 _ rfl) (by omega) (by omega) (growslice_fits (by omega) (by rw [hby]; omega))
   refine ⟨_,_,hr, .inl ?_,((Below.refl base w).drew).alloc hbase _,fun q cs t _ hc=>hc.kept (Below.heap_alloc w.drew _ q hc.lt)⟩
   have hge:=grownCap_ge w (l.length+1) l.length 5
   have hcm:grownCap w (l.length+1) l.length 5≤maxLen:=grownCap_le_maxLen w (l.length+1) l.length 5 (by unfold maxLen; omega)
   refine ⟨by simp [bvs], .inr ⟨w.heap.size,_,_,by simp,hbase,heap_alloc_new w.drew _,by simpa using hge,hcm,?_,?_⟩⟩
   ·simp only [Array.size_append,List.size_toArray,size_zeroCells,bvs_length]
    simp [Value.cells]
    omega
   ·simp only [Array.toList_append,List.append_assoc]
    rw [← List.append_assoc, ← bvs_append]
    exact List.take_left' (by simp [bvs])
def numsR (pg:Int) (a s:Nat):List Nat:=[u64N pg,a,s]
theorem bodyR_nums (pg:Int) (a s:Nat):bodyR pg a s=signL++(numsR pg a s).flatMap fun n=>leL n 8:=by simp [bodyR,numsR]
theorem u64N_lt (z:Int):u64N z < 18446744073709551616:=by
 unfold u64N
 have:=Int.emod_lt_of_pos z (show (0:Int) < 18446744073709551616 by decide)
 omega
theorem byte_of (n i:Nat):Value.int .u8 ((n:Int) / 2 ^ (8*i) % 256)=bv (UInt8.ofNat (n / 2 ^ (8*i))):=byte_val n (8*i)
theorem at_three (pg:Int) (a s:Nat) {r n:Nat} (h:(numsR pg a s)[r]? = some n):r < 3∧((#[.int .u64 (u64N pg:Int), .int .u64 (a:Int), .int .u64 (s:Int)]:Array Value).toList)[r]? = some (.int .u64 (n:Int)):=by
 unfold numsR at h
 match r,h with
 | 0,h=>simp at h; subst h; exact ⟨by omega,rfl⟩
 | 1,h=>simp at h; subst h; exact ⟨by omega,rfl⟩
 | 2,h=>simp at h; subst h; exact ⟨by omega,rfl⟩
 | r+3,h=>simp at h
set_option maxRecDepth 100000 in
set_option maxHeartbeats 4000000 in
theorem sbody_any (w:World) (pg:Int) (a s:Nat) (hp1 : -9223372036854775808≤pg) (hp2:pg≤9223372036854775807) (ha:a < 9223372036854775808) (hs:s < 18446744073709551616) :
  Calls Tryz.prog 108 #[.agg #[.int .i64 pg, .int .i64 (a:Int), .int .u64 (s:Int)]] w fun e w'=>∃ v,e = .returned v∧GwB w' w.heap.size v (bodyR pg a s)∧Below w.heap.size w w':=by
 rw [bodyR_nums]
 have hu:IntKind.u64.wrap pg=(u64N pg:Int):=by
  unfold u64N
  have h1:=Int.emod_nonneg pg (show (18446744073709551616:Int)≠0 by decide)
  rw [Int.toNat_of_nonneg h1]
  rfl
 have hu2:pg % 18446744073709551616=(u64N pg:Int):=by
  unfold u64N
  have h1:=Int.emod_nonneg pg (show (18446744073709551616:Int)≠0 by decide)
  rw [Int.toNat_of_nonneg h1]
 have hau:(a:Int) % 18446744073709551616=(a:Int):=by omega
 have h3:=fun (r n:Nat)=>at_three pg a s (r:=r) (n:=n)
 have hl:(numsR pg a s).length=3:=rfl
 have hnl:∀ n∈numsR pg a s,n < 18446744073709551616:=fun n hn=>by
  unfold numsR at hn
  simp only [List.mem_cons,List.not_mem_nil,or_false] at hn
  rcases hn with rfl | rfl | rfl
  ·exact u64N_lt pg
  ·omega
  ·exact hs
 generalize u64N pg=p at *
 generalize numsR pg a s=L at *
 have HH:=Lib.hid (anZ h3 (anZ hl hnl))
 have kc:=fun (w:World) (o:Obj) (C:Array Value) (n c:Nat)=>run_convert_second w o C n c
 obtain ⟨w2,hw2⟩:∃ w2,w2=(w.alloc (.cells #[.int .i64 pg, .int .i64 (a:Int), .int .u64 (s:Int)] 80)).alloc (.cells #[.int .u8 115, .int .u8 116, .int .u8 111, .int .u8 114, .int .u8 101] 5 (5,6)):=⟨_,rfl⟩
 have hb2:Below w.heap.size w w2:=by rw [hw2]; exact ((Below.refl _ _).alloc (Nat.le_refl _) _).alloc (by simp) _
 have C2:Cel w2 w.heap.size [.int .i64 pg, .int .i64 (a:Int), .int .u64 (s:Int)] 80:=by
  rw [hw2]
  exact (Cel.new w _ _).kept (Below.heap_alloc _ _ _ (by simp))
 have G2:GwB w2 w.heap.size (.slice (some ⟨w.heap.size+1,0,none⟩) 5 5) signL:=by
  rw [hw2]
  refine .inr ⟨w.heap.size+1,rfl,by omega,by simp,?_⟩
  have:=bs_text (w.alloc (.cells #[.int .i64 pg, .int .i64 (a:Int), .int .u64 (s:Int)] 80)) #[.int .u8 115, .int .u8 116, .int .u8 111, .int .u8 114, .int .u8 101] signL 5 (5,6) rfl rfl (by decide)
  simpa using this
 have H2:=Lib.hid (anZ hb2 (anZ C2 (anZ G2 hw2)))
 clear h3 hl hnl hs hb2 C2 G2 hw2
 go_enter Tryz.func108,Tryz.ntmps108
 go_upto_region 2 with fail
 rw [← H2.out.2.2.2]
 clear kc
 have c0:w2.cell? ⟨w.heap.size,0,none⟩=some (.int .i64 pg):=H2.out.2.1.cell 0
 have c1:w2.cell? ⟨w.heap.size,1,none⟩=some (.int .i64 (a:Int)):=H2.out.2.1.cell 1
 have c2:w2.cell? ⟨w.heap.size,2,none⟩=some (.int .u64 (s:Int)):=H2.out.2.1.cell 2
 obtain ⟨w3,hw3⟩:∃ w3,w3=w2.alloc (.cells #[.int .u64 (p:Int), .int .u64 (a:Int), .int .u64 (s:Int)] 73):=⟨_,rfl⟩
 have hb3:Below w2.heap.size w2 w3:=by rw [hw3]; exact (Below.refl _ _).alloc (Nat.le_refl _) _
 have C3:Cel w3 w2.heap.size [.int .u64 (p:Int), .int .u64 (a:Int), .int .u64 (s:Int)] 73:=by rw [hw3]; exact Cel.new w2 _ _
 have H3:=Lib.hid (anZ hb3 (anZ C3 hw3))
 clear hb3 C3 hw3
 go_wp2
 rw [← H3.out.2.2]
 clear c0 c1 c2
 go_loopw [3,19] (fun bv i wr=>∃ r:Nat,r≤3∧i = .int .i64 (r:Int)∧GwB wr w.heap.size bv (signL++(L.take r).flatMap fun n=>leL n 8)∧Below w.heap.size w wr∧Cel wr w2.heap.size [.int .u64 (p:Int), .int .u64 (a:Int), .int .u64 (s:Int)] 73) (fun _ i _=>3-(intOf i).toNat)
 case atStart=>exact ⟨0,by omega,rfl,by rw [List.take_zero]; exact (H2.out.2.2.1.below H3.out.1),H2.out.1.trans (H3.out.1.mono H2.out.1.size),H3.out.2.1⟩
 case round =>
  obtain ⟨r,hr,rfl,hG,hb,hC3⟩:=hrel
  by_cases hlt:r < 3
  ·obtain ⟨n,hn⟩:∃ n,L[r]? = some n:=⟨_,List.getElem?_eq_getElem (by have:=HH.out.2.1; omega)⟩
   have hnu:=HH.out.2.2 n (List.mem_of_getElem? hn)
   have cr:wr.cell? ⟨w2.heap.size,r,none⟩=some (.int .u64 (n:Int)):=by
    rw [hC3.cell]
    exact (HH.out.1 r n hn).2
   have hil:(r:Int) < 3:=by omega
   have hr0:(0:Int)≤(r:Int):=by omega
   have htk:L.take (r+1)=L.take r++[n]:=by rw [List.take_add_one,hn]; rfl
   have hpl:((L.take r).flatMap fun n=>leL n 8).length≤24:=by
    have h1:∀ M:List Nat,(M.flatMap fun n=>leL n 8).length=8*M.length:=fun M=>by
     induction M with
     | nil=>rfl
     | cons x t ih=>rw [List.flatMap_cons,List.length_append,leL_length,ih,List.length_cons]; omega
    rw [h1,List.length_take]
    omega
   have HB:=Lib.hid (anZ hG (anZ (anZ hb hC3) (anZ htk (anZ hpl hnu))))
   clear hG hb htk hn hpl hnu hC3
   go_wp2_with fail
   clear cr
   obtain ⟨pre,hpre⟩:∃ pre,pre=signL++(L.take r).flatMap fun n=>leL n 8:=⟨_,rfl⟩
   have hprel:pre.length≤29:=by rw [hpre,List.length_append]; have:=HB.out.2.2.2.1; have e:signL.length=5:=rfl; omega
   have HP:=Lib.hid (anZ hpre hprel)
   clear hpre hprel
   go_loopw [3,23] (fun bv i wq=>∃ j:Nat,j≤8∧i = .int .i64 (j:Int)∧GwB wq w.heap.size bv (pre++leL n j)∧Below w.heap.size w wq∧Cel wq w2.heap.size [.int .u64 (p:Int), .int .u64 (a:Int), .int .u64 (s:Int)] 73) (fun _ i _=>8-(intOf i).toNat)
   case atStart=>exact ⟨0,by omega,rfl,by rw [show leL n 0=[] from rfl,List.append_nil,HP.out.1]; exact HB.out.1,HB.out.2.1⟩
   case round =>
    rename_i wq
    obtain ⟨j,hj,rfl,hGq,hbq⟩:=hrel
    by_cases hlt2:j < 8
    ·have hjl:(j:Int) < 8:=by omega
     have hj0:(0:Int)≤8*(j:Int):=by omega
     have hlen:=HP.out.2
     have hbl:Below wr.heap.size wr (wr.alloc (.cells #[.int .u8 ((n:Int) / 2 ^ (8*j) % 256)] 5)):=(Below.refl _ _).alloc (Nat.le_refl _) _
     have hGl:=hGq.below hbl
     have hbs:=Bs.new1 wr 5 (.int .u8 ((n:Int) / 2 ^ (8*j) % 256)) (UInt8.ofNat (n / 2 ^ (8*j))) (byte_of n j)
     have hsz:w.heap.size≤(wr.alloc (.cells #[.int .u8 ((n:Int) / 2 ^ (8*j) % 256)] 5)).heap.size:=by
      have h1:=hbq.1.size
      simp
      omega
     obtain ⟨v5,w5,hr5,hG5,g5,gc5⟩:=run_append_gw _ w.heap.size 24 hGl hbs (by rw [List.length_append,leL_length]; omega) hsz
     have hb5:=anZ ((hbq.1.trans (hbl.mono hbq.1.size)).trans g5) (gc5 _ _ _ (by decide) (hbq.2.below hbl hbq.2.lt))
     rw [List.append_assoc, ← leL_succ] at hG5
     have HF:=Lib.hid (anZ hG5 hb5)
     clear hbl hGl hbs hsz hG5 g5 gc5 hb5 hGq hbq hlen
     go_wp2_with (at_builtin; refine klist_append_run rfl (.tmp 26) (.tmp 32) _ rfl rfl rfl hr5 ?_)
     clear hr5
     go_roundw
     case rel=>exact ⟨j+1,by omega,by go_num,HF.out.1,HF.out.2⟩
     case measure=>simp [intOf]; omega
    ·obtain rfl:j=8:=by omega
     have HF:=Lib.hid (anZ hGq hbq)
     clear hGq hbq
     go_wp2
     go_roundw
     case rel=>exact ⟨r+1,by omega,by go_num,by
      have h1:=HF.out.1
      rw [HP.out.1,List.append_assoc] at h1
      rw [HB.out.2.2.1,List.flatMap_append,List.flatMap_cons,List.flatMap_nil,List.append_nil]
      exact h1,HF.out.2⟩
     case measure=>simp [intOf]; omega
  ·obtain rfl:r=3:=by omega
   rw [List.take_of_length_le (by have:=HH.out.2.1; omega)] at hG
   have HB:=Lib.hid (anZ hG hb)
   clear hG hb hC3
   go_wp2
   go_ret
   exact ⟨_,rfl,HB.out.1,HB.out.2⟩
end Go.Proofs.YtgkofgifoiinkaaGreat
namespace Go.Proofs.YtgkofgifoiinkaaGreat
open Go.RowKit
theorem mayGen_any (g:Nat) (w:World) (hg:g < 18446744073709551616):Calls Tryz.prog 125 #[.int .u64 (g:Int)] w fun e w'=>e = .returned (.bool (genB g))∧w=w':=by
 by_cases h1:1≤g
 ·have h1':(1:Int)≤(g:Int):=by omega
  by_cases h2:g≤4611686018427387904
  ·have h2':(g:Int)≤4611686018427387904:=by omega
   rw [genB_iff.2 ⟨h1,h2⟩]
   clear h1 h2
   go_enter Tryz.func125,Tryz.ntmps125
   go_wp2
   go_ret
   exact ⟨rfl,rfl⟩
  ·have h2':¬ (g:Int)≤4611686018427387904:=by omega
   rw [show genB g=false by unfold genB; simp [h2]]
   clear h1 h2
   go_enter Tryz.func125,Tryz.ntmps125
   go_wp2
   go_ret
   exact ⟨rfl,rfl⟩
 ·have h1':¬ (1:Int)≤(g:Int):=by omega
  rw [show genB g=false by unfold genB; simp [h1]]
  clear h1
  go_enter Tryz.func125,Tryz.ntmps125
  go_wp2
  go_ret
  exact ⟨rfl,rfl⟩
theorem turn_any (g:Nat) (w:World):Calls Tryz.prog 126 #[.int .u64 (g:Int)] w fun e w'=>e = .returned (.int .i64 ((g % 2:Nat):Int))∧w=w':=by
 have h1:(g:Int) % 2=((g % 2:Nat):Int):=by omega
 have H:=Lib.hid h1
 clear h1
 go_enter Tryz.func126,Tryz.ntmps126
 go_wp2
 go_ret
 refine ⟨?_,rfl⟩
 rw [← H.out]
 rfl
abbrev rootV (g:Nat) (v:Value):Value:=.agg #[.int .u64 (g:Int),v]
def New (w w':World) (v:Value) (l:Bytes):Prop:=Bs w' v l∧∀ q,v.ownBlock=some q→w.heap.size≤q
def Opened (w:World) (k:Nat) (b:Bytes) (e:Ending) (w':World):Prop:=∃ v,e = .returned (rootV (rootOf k b).1 v)∧New w w' v (rootOf k b).2∧Below w.heap.size w w'
theorem srun_slice_low {P:Program} {t e:TypeId} (T:ByteTy P t e) {v:Value} {n:Nat} {a:Option Addr} {cap:Nat} (hv:v = .slice a n cap) (k1:IntKind) (lo:Nat) (h1:lo≤n) :
  (∀ w1,(Instr.slice t v (some (.int k1 (lo:Int))) none none).run P w1 = .ok (sliced a lo n cap 1) w1):=by
 intro w1
 subst hv
 rw [run_slice_l w1 t a n cap T.slice' k1 _ (by omega) (by omega),T.elem,T.run_size]
 simp [Result.andThen]
theorem sbs_from {w:World} {a:Option Addr} {n cap:Nat} {l:Bytes} (h:Bs w (.slice a n cap) l) (lo:Nat) (hl:lo≤n):Bs w (sliced a lo n cap 1) (l.drop lo):=by
 obtain ⟨a',cap',e,g1,g2,g3,g4⟩:=h
 simp only [Value.slice.injEq] at e
 obtain ⟨rfl,rfl,rfl⟩:=e
 have:=bs_sliced g1 g2 g3 g4 lo l.length hl (Nat.le_refl _)
 rwa [List.take_of_length_le (Nat.le_refl _)] at this
theorem ssliced_own (a:Option Addr) (lo hi cap sz n c:Nat):(sliced a lo hi cap sz).ownBlock=(Value.slice a n c).ownBlock:=by
 unfold sliced
 cases a with
 | none=>simp [Value.ownBlock]
 | some a =>
  split
  ·rfl
  ·simp only [Option.map_some,Value.ownBlock,Addr.add]
   split <;> rfl
theorem sresults_cell {P:Program} {fn:Func} {t:Tmp} {ty:TypeId} (h:fn.results = #[.cell t ty]) {tmps:Array Value} {w:World} {a:Addr} {v:Value} (ha:tmps.getD t undef = .pointer (some a))
  (hl:(loadVar ty a).run P w = .ok v w):(results fn tmps).run P w = .ok v w:=by
 have ha':tmps[t]?.getD undef = .pointer (some a):=by rw [← Array.getD_eq_getD_getElem?]; exact ha
 simp [results,h,ha',asAddr,hl]
theorem load_root {w:World} {g n:Nat} {v:Value} (h:Cel w g [.int .u64 (n:Int),v] 109) (hv:∃ a l c,v = .slice a l c):(loadVar 109 ⟨g,0,none⟩).run Tryz.prog w = .ok (rootV n v) w:=by
 obtain ⟨a,l,c,rfl⟩:=hv
 have c0:w.cell? ⟨g,0,none⟩=some (.int .u64 (n:Int)):=by rw [h.cell]; rfl
 have c1:w.cell? ⟨g,1,none⟩=some (.slice a l c):=by rw [h.cell]; rfl
 unfold rootV
 go_simp
theorem openV_len (l:Bytes):(openV l).2.1.length≤l.length:=by
 unfold openV
 split
 ·split
  ·simp only [List.length_take,List.length_drop]; omega
  ·exact Nat.zero_le _
 ·exact Nat.zero_le _
theorem new_nil (w w':World):New w w' (.slice none 0 0) []:=⟨Bs.nil _,fun q h=>by cases h⟩
theorem opened_no {w w':World} {k:Nat} {b:Bytes} (h:¬ isRoot k b) (hb:Below w.heap.size w w'):Opened w k b (.returned (rootV 0 (.slice none 0 0))) w':=by
 unfold Opened
 rw [rootOf_no h]
 exact ⟨_,rfl,new_nil _ _,hb⟩
set_option maxHeartbeats 1000000 in
theorem sopened_any {b:Value} {l:Bytes} (k:Nat) (w:World) (hb:Bs w b l) (hl:l.length≤1073741824):Calls Tryz.prog 97 #[.int .i64 (k:Int),b] w (Opened w k l):=by
 have hbA:=hb.alloc (.cells #[.int .u64 0, .slice none 0 0] 109)
 have hz:=openV_len l
 have hO:=blkOpen_any (w.alloc (.cells #[.int .u64 0, .slice none 0 0] 109)) hbA
 have hno:=fun (w':World) (h:¬ isRoot k l)=>opened_no (w:=w) (w':=w') h
 have hyes:isRoot k l→rootOf k l=(genOf l,(openV l).2.1.drop 8):=rootOf_yes
 have hA:Below w.heap.size w (w.alloc (.cells #[.int .u64 0, .slice none 0 0] 109)):=(Below.refl _ _).alloc (Nat.le_refl _) _
 have hc:=Cel.new w #[.int .u64 0, .slice none 0 0] 109
 unfold Opened at *
 unfold isRoot genOf at hno hyes
 unfold Opens at hO
 generalize openV l=x at *
 obtain ⟨kd,bd,cd⟩:=x
 simp only at hz hO hno hyes
 have H:=Lib.hid (anZ hO (anZ hno (anZ hyes (anZ hA hc))))
 clear hbA hO hno hyes hA hc hb
 go_enter Tryz.func97,Tryz.ntmps97
 go_wp2_with fail
 refine H.out.1.mono ?_
 rintro e w1 ⟨v1,rfl,o1,b1⟩
 have hc1:=H.out.2.2.2.2.below b1 H.out.2.2.2.2.lt
 have k0:w1.cell? ⟨w.heap.size,0,none⟩=some (.int .u64 0):=by rw [hc1.cell]; rfl
 have k1:w1.cell? ⟨w.heap.size,1,none⟩=some (.slice none 0 0):=by rw [hc1.cell]; rfl
 have f1:=fun i=>hc1.frozen i
 have hlt:=hc1.lt
 have hbw:=H.out.2.2.2.1.trans (b1.mono H.out.2.2.2.1.size)
 have H1:=Lib.hid (anZ o1 (anZ b1 (anZ hbw hc1)))
 clear b1 hbw hc1
 by_cases h1:cd=0
 ·by_cases h2:kd=1
  ·subst h1
   subst h2
   have hT:=take_any (b:=v1) (l:=bd) 0 8 w1 o1.bs (by omega)
   obtain ⟨a1,c1,rfl,hbs⟩:=o1.bs.shape
   have hmay:takeMay bd 0 8:=⟨rfl,by omega,by omega⟩
   by_cases h3:8≤bd.length
   ·have eE:takeE bd 0 8=0:=by unfold takeE; rw [if_pos hmay,if_pos (by omega)]
    have eX:takeX bd 0 8=8:=by unfold takeX; rw [if_pos ⟨hmay,by omega⟩]; rfl
    have eN:takeN bd 0 8=beNat (bd.take 8):=by unfold takeN; rw [if_pos ⟨hmay,by omega⟩]; rfl
    have hg:=beNat_lt (bd.take 8)
    rw [List.length_take,show min 8 bd.length=8 by omega] at hg
    unfold Takes at hT
    rw [eE,eX,eN] at hT
    obtain ⟨g,hgg⟩:∃ g,beNat (bd.take 8)=g:=⟨_,rfl⟩
    rw [hgg] at hT hg
    have HI:=Lib.hid (anZ H.out.2.1 (anZ H.out.2.2.1 (anZ o1 hgg)))
    have HT:=Lib.hid hT
    have h3':(8:Int)≤(bd.length:Int):=by omega
    have hzz:(bd.length:Int)≤1073741824:=by omega
    clear H hT eE eX eN hmay hgg o1
    go_wp2_with fail
    clear k0 k1 f1
    refine HT.out.mono ?_
    rintro e w2 ⟨rfl,b2⟩
    have hc2:=H1.out.2.2.2.below b2 H1.out.2.2.2.lt
    have k0:w2.cell? ⟨w.heap.size,0,none⟩=some (.int .u64 0):=by rw [hc2.cell]; rfl
    have k1:w2.cell? ⟨w.heap.size,1,none⟩=some (.slice none 0 0):=by rw [hc2.cell]; rfl
    have f1:=fun i=>hc2.frozen i
    have hlt:=hc2.lt
    have hbw:=H1.out.2.2.1.trans (b2.mono H1.out.2.2.1.size)
    have hmg:=fun W=>mayGen_any g W (by omega)
    have htu:=fun W=>turn_any g W
    by_cases h4:genB g=true
    ·rw [h4] at hmg
     by_cases h5:g % 2=k
     ·rw [h5] at htu
      have hL:bd.length≤488∨488 < bd.length:=by omega
      have H2:=Lib.hid (anZ b2 (anZ hbw (anZ hc2 (anZ hmg htu))))
      clear b2 hbw hc2 hmg htu HT
      rcases hL with hL | hL
      ·have hroot:=HI.out.2.1 ⟨trivial,trivial,h3,by rw [HI.out.2.2.2]; exact h4,by rw [HI.out.2.2.2]; exact h5,hL⟩
       rw [HI.out.2.2.2] at hroot
       have hL':(bd.length:Int)-8≤480:=by omega
       have hrs:=srun_slice_low (P:=Tryz.prog) bt (v:=.slice a1 bd.length c1) rfl .i64 8 h3
       have hv2:=sbs_from (hbs.below H2.out.1) 8 h3
       have hown:=fun q (hq:(sliced a1 8 bd.length c1 1).ownBlock=some q)=>(HI.out.2.2.1.own (q:=q) (by rw [← ssliced_own a1 8 bd.length c1 1 bd.length c1]; exact hq)).1
       have H3:=Lib.hid (anZ hroot (anZ hv2 hown))
       clear hroot hv2 hown h3 h4 h5 hL hbs hrs
       by_cases hc8:c1=8
       all_goals
        have H4:=Lib.hid hc8
        clear hc8
        go_wp2_with fail
        refine (H2.out.2.2.2.1 _).mono ?_
        rintro e w3 ⟨rfl,rfl⟩
        go_wp2_with fail
        refine (H2.out.2.2.2.2 _).mono ?_
        rintro e w3 ⟨rfl,rfl⟩
        have hc8:=H4.out
        go_wp2_with fail
        refine bodyPost_ret (sresults_cell rfl rfl (load_root ((H2.out.2.2.1.set 0 (.int .u64 (g:Int))).set 1 _) ⟨_,_,_,rfl⟩)) rfl ?_
        have ho:Only (· = w.heap.size) w2 ((w2.setCell ⟨w.heap.size,0,none⟩ (.int .u64 (g:Int))).setCell ⟨w.heap.size,1,none⟩ (sliced a1 8 bd.length c1 1)):=((Only.refl (· = w.heap.size) w2).setCell (p:=⟨w.heap.size,0,none⟩) (.inl rfl) _).setCell (p:=⟨w.heap.size,1,none⟩) (.inl rfl) _
        have hfin:=H3.out.2.1.only ho fun q hq e=>by have:=H3.out.2.2 q hq; simp at this; omega
        have hbel:=(H2.out.2.1.setCell (p:=⟨w.heap.size,0,none⟩) (Nat.le_refl _) (.int .u64 (g:Int))).setCell (p:=⟨w.heap.size,1,none⟩) (Nat.le_refl _) (sliced a1 8 bd.length c1 1)
        have hown:∀ q,(sliced a1 8 bd.length c1 1).ownBlock=some q→w.heap.size≤q:=fun q hq=>by have:=H3.out.2.2 q hq; simp at this; omega
        rw [H3.out.1]
        simp only [sliced,if_pos,if_neg,hc8,not_false_eq_true] at hfin hbel hown
        exact ⟨_,rfl,⟨hfin,hown⟩,hbel⟩
      ·have hL':¬ (bd.length:Int)-8≤480:=by omega
       have HN:=Lib.hid (HI.out.1 · (fun h=>absurd h.2.2.2.2.2 (by omega)))
       clear h3 h4 h5 hL hbs
       go_wp2_with fail
       refine (H2.out.2.2.2.1 _).mono ?_
       rintro e w3 ⟨rfl,rfl⟩
       go_wp2_with fail
       refine (H2.out.2.2.2.2 _).mono ?_
       rintro e w3 ⟨rfl,rfl⟩
       go_wp2_with fail
       refine bodyPost_ret (sresults_cell rfl rfl (load_root ((H2.out.2.2.1.set 0 (.int .u64 0)).set 1 (.slice none 0 0)) ⟨_,_,_,rfl⟩)) rfl ?_
       exact HN.out _ ((H2.out.2.1.setCell (p:=⟨w.heap.size,0,none⟩) (by simp) _).setCell (p:=⟨w.heap.size,1,none⟩) (by simp) _)
     ·have h5':¬ ((g % 2:Nat):Int)=(k:Int):=by omega
      have hq:((((g % 2:Nat):Int)) != (k:Int))=true:=by simpa using h5'
      have HN:=Lib.hid (HI.out.1 · (fun h=>h5 (by rw [← HI.out.2.2.2]; exact h.2.2.2.2.1)))
      have H2:=Lib.hid (anZ b2 (anZ hbw (anZ hc2 (anZ hmg htu))))
      clear b2 hbw hc2 hmg htu HT h3 h4 h5 hbs
      go_wp2_with fail
      refine (H2.out.2.2.2.1 _).mono ?_
      rintro e w3 ⟨rfl,rfl⟩
      go_wp2_with fail
      refine (H2.out.2.2.2.2 _).mono ?_
      rintro e w3 ⟨rfl,rfl⟩
      go_wp2_with fail
      refine bodyPost_ret (sresults_cell rfl rfl (load_root ((H2.out.2.2.1.set 0 (.int .u64 0)).set 1 (.slice none 0 0)) ⟨_,_,_,rfl⟩)) rfl ?_
      exact HN.out _ ((H2.out.2.1.setCell (p:=⟨w.heap.size,0,none⟩) (by simp) _).setCell (p:=⟨w.heap.size,1,none⟩) (by simp) _)
    ·have h4':genB g=false:=by simpa using h4
     rw [h4'] at hmg
     have HN:=Lib.hid (HI.out.1 · (fun h=>h4 (by rw [← HI.out.2.2.2]; exact h.2.2.2.1)))
     have H2:=Lib.hid (anZ b2 (anZ hbw (anZ hc2 (anZ hmg htu))))
     clear b2 hbw hc2 hmg htu HT h3 h4 h4' hbs
     go_wp2_with fail
     refine (H2.out.2.2.2.1 _).mono ?_
     rintro e w3 ⟨rfl,rfl⟩
     go_wp2_with fail
     refine bodyPost_ret (sresults_cell rfl rfl (load_root ((H2.out.2.2.1.set 0 (.int .u64 0)).set 1 (.slice none 0 0)) ⟨_,_,_,rfl⟩)) rfl ?_
     exact HN.out _ ((H2.out.2.1.setCell (p:=⟨w.heap.size,0,none⟩) (by simp) _).setCell (p:=⟨w.heap.size,1,none⟩) (by simp) _)
   ·have hlt8:(bd.length:Int) < 8:=by omega
    have eE:takeE bd 0 8=5:=by unfold takeE; rw [if_pos hmay,if_neg (by omega)]
    have eX:takeX bd 0 8=0:=by unfold takeX; rw [if_neg (by omega)]
    have eN:takeN bd 0 8=0:=by unfold takeN; rw [if_neg (by omega)]
    unfold Takes at hT
    rw [eE,eX,eN] at hT
    have HN:=Lib.hid (H.out.2.1 · (fun h=>h3 h.2.2.1))
    have HT:=Lib.hid hT
    clear H hT eE eX eN hmay o1 h3 hbs
    go_wp2_with fail
    clear k0 k1 f1
    refine HT.out.mono ?_
    rintro e w2 ⟨rfl,b2⟩
    have hc2:=H1.out.2.2.2.below b2 H1.out.2.2.2.lt
    have k0:w2.cell? ⟨w.heap.size,0,none⟩=some (.int .u64 0):=by rw [hc2.cell]; rfl
    have k1:w2.cell? ⟨w.heap.size,1,none⟩=some (.slice none 0 0):=by rw [hc2.cell]; rfl
    have f1:=fun i=>hc2.frozen i
    have hlt:=hc2.lt
    have hbw:=H1.out.2.2.1.trans (b2.mono H1.out.2.2.1.size)
    have H2:=Lib.hid (anZ b2 (anZ hbw hc2))
    clear b2 hbw hc2 HT
    go_wp2_with fail
    refine bodyPost_ret (sresults_cell rfl rfl (load_root ((H2.out.2.2.set 0 (.int .u64 0)).set 1 (.slice none 0 0)) ⟨_,_,_,rfl⟩)) rfl ?_
    exact HN.out _ ((H2.out.2.1.setCell (p:=⟨w.heap.size,0,none⟩) (by simp) _).setCell (p:=⟨w.heap.size,1,none⟩) (by simp) _)
  ·have h2':¬ ((kd.toNat:Int)=1):=by
    intro e
    apply h2
    apply UInt8.toNat_inj.1
    rw [show (1:UInt8).toNat=1 from rfl]
    omega
   have hq:((kd.toNat:Int) != 1)=true:=by simpa using h2'
   have HN:=Lib.hid (H.out.2.1 · (fun h=>h2 h.2.1))
   clear h2 o1
   subst h1
   go_wp2_with fail
   refine bodyPost_ret (sresults_cell rfl rfl (load_root ((H1.out.2.2.2.set 0 (.int .u64 0)).set 1 (.slice none 0 0)) ⟨_,_,_,rfl⟩)) rfl ?_
   exact HN.out _ ((H1.out.2.2.1.setCell (p:=⟨w.heap.size,0,none⟩) (by simp) _).setCell (p:=⟨w.heap.size,1,none⟩) (by simp) _)
 ·have HN:=Lib.hid (H.out.2.1 · (fun h=>h1 h.1))
  have hq:(cd != 0)=true:=by simpa using h1
  clear h1 o1
  go_wp2_with fail
  refine bodyPost_ret (sresults_cell rfl rfl (load_root ((H1.out.2.2.2.set 0 (.int .u64 0)).set 1 (.slice none 0 0)) ⟨_,_,_,rfl⟩)) rfl ?_
  exact HN.out _ ((H1.out.2.2.1.setCell (p:=⟨w.heap.size,0,none⟩) (by simp) _).setCell (p:=⟨w.heap.size,1,none⟩) (by simp) _)
end Go.Proofs.YtgkofgifoiinkaaGreat
namespace Go.Proofs.YtgkofgifoiinkaaGreat
open Go.RowKit Go.Maps
section
variable {w:World} {b:Nat} {D:Dv} {F:Nat→Prop}
theorem power_any (h:Dev w b D F):Calls Tryz.prog 25 #[ptr b] w fun e w'=>e = .returned (.bool D.on)∧w=w':=by
 obtain ⟨sb,mb,sv,lv,Dm,h⟩:=h
 have c2:=h.cells.2.2.1
 clear h
 go_enter Tryz.func25,Tryz.ntmps25
 go_wp2
 go_ret
 exact ⟨rfl,rfl⟩
end
section
variable {w0 w:World} {b:Nat} {D:Dv}
end
end Go.Proofs.YtgkofgifoiinkaaGreat
namespace Go.Proofs.YtgkofgifoiinkaaGreat
open Go.RowKit
theorem sresults_cell_tmp {P:Program} {fn:Func} {t u:Tmp} {ty:TypeId} (h:fn.results = #[.cell t ty, .tmp u]) {tmps:Array Value} {w:World} {a:Addr} {v:Value} (ha:tmps.getD t undef = .pointer (some a))
  (hl:(loadVar ty a).run P w = .ok v w):(results fn tmps).run P w = .ok (.tuple #[v,tmps.getD u undef]) w:=by
 have ha':tmps[t]?.getD undef = .pointer (some a):=by rw [← Array.getD_eq_getD_getElem?]; exact ha
 simp [results,h,ha',asAddr,hl]
def bestN (D:Dv):Nat→Nat × Bytes
 | 0=>(0,[])
 | k+1=>best (bestN D k) (rootOf k (stAt D k))
theorem best_none (k:Nat) (b:Bytes):best (0,[]) (rootOf k b)=rootOf k b:=by
 unfold best
 split
 ·rfl
 ·rename_i h
  rcases rootOf_own k b with e | e
  ·exact e.symm
  ·simp only at h; omega
theorem bestN_two (D:Dv):bestN D 2=best (rootOf 0 (stAt D 0)) (rootOf 1 (stAt D 1)):=by
 show best (best (0,[]) (rootOf 0 (stAt D 0))) (rootOf 1 (stAt D 1))=_
 rw [best_none]
def Great (w:World) (r:Nat × Bytes) (e:Ending) (w':World):Prop:=∃ v,e = .returned (.tuple #[rootV r.1 v,err 0])∧New w w' v r.2∧Below w.heap.size w w'
theorem New.slice {w w':World} {v:Value} {l:Bytes} (h:New w w' v l):∃ a n c,v = .slice a n c:=let ⟨_,_,e,_⟩:=h.1.shape; ⟨_,_,_,e⟩
set_option maxRecDepth 100000 in
set_option maxHeartbeats 1000000 in
theorem greatest_any {w:World} {b:Nat} {D:Dv} {F:Nat→Prop} (h:Dev w b D F) (ho:D.on=true) (h2:2≤D.bk.length):Calls Tryz.prog 70 #[ptr b] w (Great w (bestN D 2)):=by
 have HD:=Lib.hid (anZ h (anZ ho h2))
 have hA:Below w.heap.size w (w.alloc (.cells #[.int .u64 0, .slice none 0 0] 109)):=(Below.refl _ _).alloc (Nat.le_refl _) _
 have hc:=Cel.new w #[.int .u64 0, .slice none 0 0] 109
 have H:=Lib.hid (anZ hA hc)
 clear h ho h2 hA hc
 go_enter Tryz.func70,Tryz.ntmps70
 go_wp2
 go_loopw [8] (fun i wr=>∃ r:Nat,r≤2∧i = .int .i64 (r:Int)∧∃ v,Cel wr w.heap.size [.int .u64 ((bestN D r).1:Int),v] 109∧Bs wr v (bestN D r).2∧(∀ q,v.ownBlock=some q→w.heap.size < q)∧Below w.heap.size w wr) (fun i _=>2-(intOf i).toNat)
 case atStart=>exact ⟨0,by omega,rfl, .slice none 0 0,H.out.2,Bs.nil _,(fun q h=>by cases h),H.out.1⟩
 case round =>
  obtain ⟨r,hr,rfl,v,hcr,hbs,hown,hb⟩:=hrel
  by_cases hlt:r < 2
  ·have hlt':(r:Int) < 2:=by omega
   obtain ⟨x,hx⟩:∃ x,D.bk[r]? = some x:=⟨_,List.getElem?_eq_getElem (by have:=HD.out.2.2; omega)⟩
   have hrd:=read_ok (HD.out.1.below hb) HD.out.2.1 hx
   have hstx:=stAt_of hx
   have hlen:x.stands.length=512:=stands_len HD.out.1 hx
   have HR:=Lib.hid (anZ hrd (anZ hcr (anZ hbs (anZ hown (anZ hb (anZ hstx hlen))))))
   clear hx hrd hcr hbs hown hb hstx hlen
   go_wp2_with fail
   refine HR.out.1.mono ?_
   rintro e w2 ⟨g,rfl,hg,hgz,b2⟩
   have hc2:=HR.out.2.1.below b2 HR.out.2.1.lt
   have hlt2:=hc2.lt
   have hb2:=HR.out.2.2.2.2.1.trans (b2.mono HR.out.2.2.2.2.1.size)
   have hbb:Bs w2 (.slice (some ⟨g,0,none⟩) 512 512) x.stands:=Blk.bs ⟨g,rfl,hg,HR.out.2.2.2.2.2.2⟩
   have hop:=sopened_any r w2 hbb (by have:=HR.out.2.2.2.2.2.2; omega)
   have hold:=HR.out.2.2.1.below b2
   have H2:=Lib.hid (anZ hc2 (anZ hb2 (anZ hold hop)))
   clear hc2 hb2 hg b2 hbb hop hold
   go_wp2_with fail
   refine H2.out.2.2.2.mono ?_
   rintro e w3 ⟨v3,rfl,hn3,b3⟩
   obtain ⟨a3,n3,c3,rfl⟩:=hn3.slice
   obtain ⟨a,n,c,rfl⟩:∃ a n c,v = .slice a n c:=let ⟨_,_,e,_⟩:=HR.out.2.2.1.shape; ⟨_,_,_,e⟩
   have hc3:=H2.out.1.below b3 H2.out.1.lt
   have hb3:=H2.out.2.1.trans (b3.mono H2.out.2.1.size)
   have hold3:=H2.out.2.2.1.below b3
   have hlt3:=hc3.lt
   have f3:=fun i=>hc3.frozen i
   have m0:w3.cell? ⟨w.heap.size,0,none⟩=some (.int .u64 ((bestN D r).1:Int)):=by rw [hc3.cell]; rfl
   have m1:w3.cell? ⟨w.heap.size,1,none⟩=some (.slice a n c):=by rw [hc3.cell]; rfl
   have hstep:bestN D (r+1)=best (bestN D r) (rootOf r x.stands):=by rw [← HR.out.2.2.2.2.2.1]; rfl
   have HB:=Lib.hid (anZ hb3 (anZ hold3 (anZ hn3.1 (anZ hc3 (anZ hn3.2 (anZ hstep (anZ HR.out.2.2.2.1 hlt2)))))))
   clear hc3 hb3 hold3 hn3 b3 hstep
   generalize rootOf r x.stands=R3 at *
   generalize hB:bestN D r=R0 at *
   clear hB
   by_cases hgt:R0.1 < R3.1
   ·have hgt':(R0.1:Int) < (R3.1:Int):=by omega
    have hbest:best R0 R3=R3:=by unfold best; rw [if_pos hgt]
    have HF:=Lib.hid hbest
    clear hgt hbest
    go_wp2_with fail
    go_roundw
    case rel =>
     obtain ⟨hb3,hold3,hn3,hc3,hown3,hstep,_,hz⟩:=HB.out
     have ho:Only (· = w.heap.size) w3 (((w3.setCell ⟨w.heap.size,0,none⟩ (.int .u64 (R3.1:Int))).setCell ⟨w.heap.size,1,none⟩ (.slice a3 n3 c3)).alloc (.cells #[.int .u64 (R3.1:Int), .slice a3 n3 c3] 109)):=(((Only.refl (· = w.heap.size) w3).setCell (p:=⟨w.heap.size,0,none⟩) (.inl rfl) _).setCell (p:=⟨w.heap.size,1,none⟩) (.inl rfl) _).alloc _
     refine ⟨r+1,by omega,by go_num, .slice a3 n3 c3,?_,?_,fun q hq=>by have:=hown3 q hq; omega,((hb3.setCell (p:=⟨w.heap.size,0,none⟩) (Nat.le_refl _) _).setCell (p:=⟨w.heap.size,1,none⟩) (Nat.le_refl _) _).alloc (by simpa using hb3.size) _⟩
     ·rw [hstep,HF.out]
      exact ((hc3.set 0 _).set 1 _).alloc _
     ·rw [hstep,HF.out]
      exact hn3.only ho fun q hq e=>by have:=hown3 q hq; omega
    case measure=>simp [intOf]; omega
   ·have hgt':¬ (R0.1:Int) < (R3.1:Int):=by omega
    have hbest:best R0 R3=R0:=by unfold best; rw [if_neg hgt]
    have HF:=Lib.hid hbest
    clear hgt hbest
    go_wp2_with fail
    go_roundw
    case rel =>
     obtain ⟨hb3,hold3,_,hc3,_,hstep,hown,hz⟩:=HB.out
     have hnew:Below w3.heap.size w3 (w3.alloc (.cells #[.int .u64 (R3.1:Int), .slice a3 n3 c3] 109)):=(Below.refl _ _).alloc (Nat.le_refl _) _
     refine ⟨r+1,by omega,by go_num, .slice a n c,?_,?_,hown,hb3.trans (hnew.mono hb3.size)⟩
     ·rw [hstep,HF.out]
      exact hc3.alloc _
     ·rw [hstep,HF.out]
      exact hold3.below hnew
    case measure=>simp [intOf]; omega
  ·obtain rfl:r=2:=by omega
   obtain ⟨a,n,c,rfl⟩:∃ a n c,v = .slice a n c:=let ⟨_,_,e,_⟩:=hbs.shape; ⟨_,_,_,e⟩
   have k0:wr.cell? ⟨w.heap.size,0,none⟩=some (.int .u64 ((bestN D 2).1:Int)):=by rw [hcr.cell]; rfl
   have k1:wr.cell? ⟨w.heap.size,1,none⟩=some (.slice a n c):=by rw [hcr.cell]; rfl
   have f1:=fun i=>hcr.frozen i
   have hlt:=hcr.lt
   have HR:=Lib.hid (anZ hcr (anZ hbs (anZ hown hb)))
   clear hcr hbs hown hb
   generalize bestN D 2=R at *
   go_wp2_with fail
   have k3:=(HR.out.1.set 0 (.int .u64 (R.1:Int))).set 1 (.slice a n c)
   refine bodyPost_ret (sresults_cell_tmp rfl rfl (load_root k3 ⟨_,_,_,rfl⟩)) rfl ?_
   have ho:Only (· = w.heap.size) wr ((wr.setCell ⟨w.heap.size,0,none⟩ (.int .u64 (R.1:Int))).setCell ⟨w.heap.size,1,none⟩ (.slice a n c)):=((Only.refl (· = w.heap.size) wr).setCell (p:=⟨w.heap.size,0,none⟩) (.inl rfl) _).setCell (p:=⟨w.heap.size,1,none⟩) (.inl rfl) _
   exact ⟨_,rfl,⟨HR.out.2.1.only ho fun q hq e=>by have:=HR.out.2.2.1 q hq; omega,fun q hq=>by have:=HR.out.2.2.1 q hq; omega⟩,(HR.out.2.2.2.setCell (p:=⟨w.heap.size,0,none⟩) (Nat.le_refl _) _).setCell (p:=⟨w.heap.size,1,none⟩) (Nat.le_refl _) _⟩
def Loads (w:World) (r:Nat × Bytes × Int) (e:Ending) (w':World):Prop:=∃ v,e = .returned (.tuple #[.int .u64 (r.1:Int),v,err r.2.2])∧New w w' v r.2.1∧Below w.heap.size w w'
theorem run_no_root:∀ w:World,(Instr.field 109 (.agg #[.int .u64 0, .slice none 0 0]) 0).run Tryz.prog w = .ok (.int .u64 0) w:=fun w=>by kernel_rfl
set_option maxRecDepth 100000 in
set_option maxHeartbeats 1000000 in
theorem load_any {w:World} {b:Nat} {D:Dv} {F:Nat→Prop} (h:Dev w b D F):Calls Tryz.prog 32 #[ptr b] w (Loads w (loadV D)):=by
 by_cases ho:D.on=false
 ·have hp:=power_any h
  rw [ho] at hp
  rw [show loadV D=(0,[],8) from if_pos ho]
  clear ho h
  go_enter Tryz.func32,Tryz.ntmps32
  go_wp2_with fail
  refine hp.mono ?_
  rintro e w1 ⟨rfl,rfl⟩
  go_wp2
  go_ret3
  exact ⟨_,rfl,new_nil _ _,Below.refl _ _⟩
 have ho':D.on=true:=by simpa using ho
 have hp:=power_any h
 rw [ho'] at hp
 have hs:=size_any h
 by_cases h2:D.bk.length < 2
 ·rw [show loadV D=(0,[],1) from by unfold loadV; rw [if_neg ho,if_pos h2]]
  have h2':(D.bk.length:Int) < 2:=by omega
  clear ho ho' h h2
  go_enter Tryz.func32,Tryz.ntmps32
  go_wp2_with fail
  refine hp.mono ?_
  rintro e w1 ⟨rfl,rfl⟩
  go_wp2_with fail
  refine hs.mono ?_
  rintro e w1 ⟨rfl,rfl⟩
  go_wp2
  go_ret3
  exact ⟨_,rfl,new_nil _ _,Below.refl _ _⟩
 have hg:=greatest_any h ho' (by omega)
 have h2':¬ (D.bk.length:Int) < 2:=by omega
 have hl:loadV D=if (bestN D 2).1=0 then (0,[],4) else ((bestN D 2).1,(bestN D 2).2,0):=by
  unfold loadV
  rw [if_neg ho,if_neg h2,bestN_two]
 rw [hl]
 unfold Great at hg
 generalize bestN D 2=R at *
 obtain ⟨L,hL⟩:∃ L,(if R.1=0 then (0,[],4) else (R.1,R.2,0):Nat × Bytes × Int)=L:=⟨_,rfl⟩
 rw [hL]
 have H:=Lib.hid (anZ hp (anZ hs (anZ hg hL)))
 clear ho ho' h h2 hl hp hs hg hL
 go_enter Tryz.func32,Tryz.ntmps32
 go_wp2_with fail
 refine H.out.1.mono ?_
 rintro e w1 ⟨rfl,rfl⟩
 go_wp2_with fail
 refine H.out.2.1.mono ?_
 rintro e w1 ⟨rfl,rfl⟩
 go_wp2_with fail
 refine H.out.2.2.1.mono ?_
 rintro e w1 ⟨v,rfl,hn,hb⟩
 obtain ⟨a,n,c,rfl⟩:=hn.slice
 have hnew:Below w1.heap.size w1 (w1.alloc (.cells #[.int .u64 (R.1:Int), .slice a n c] 109)):=(Below.refl _ _).alloc (Nat.le_refl _) _
 have HN:=Lib.hid (anZ hn (anZ hb (anZ hnew (hb.trans (hnew.mono hb.size)))))
 clear hn hb hnew
 have hL:=H.out.2.2.2
 have hfld:=run_no_root
 by_cases hz:R.1=0
 ·have hz':(R.1:Int)=0:=by omega
  rw [if_pos hz] at hL
  have HL:=Lib.hid hL
  clear hz hL
  go_wp2_with fail
  go_ret3
  rw [← HL.out]
  exact ⟨_,rfl,new_nil _ _,HN.out.2.1.alloc HN.out.2.1.size _⟩
 ·have hz':¬ (R.1:Int)=0:=by omega
  rw [if_neg hz] at hL
  have HL:=Lib.hid hL
  clear hz hL
  go_wp2_with fail
  go_quiet (fail)
  go_wp2
  go_ret3
  rw [← HL.out]
  have hw:∀ m,Below w1.heap.size w1 ((w1.alloc (.cells #[.int .u64 (R.1:Int), .slice a n c] 109)).drewN m):=fun m=>below_drewN ((Below.refl _ _).alloc (Nat.le_refl _) _) m
  exact ⟨_,rfl,⟨HN.out.1.1.below (hw _),HN.out.1.2⟩,HN.out.2.1.trans ((hw _).mono HN.out.2.1.size)⟩
end Go.Proofs.YtgkofgifoiinkaaGreat
