/- Pairs put, cut and looked up; where a key belongs among a node's children; no condition. -/
import Derived.Test.YtgkofgifoiinkaaGreatN12
import Derived.Test.YtgkofgifoiinkaaGreatN05
namespace Go.Proofs.YtgkofgifoiinkaaGreat
open Go.RowKit
set_option maxRecDepth 100000 in
set_option maxHeartbeats 2000000 in
theorem child_any {tb db pb fr:Nat} {D:Dv} {ps:List Pg} {S:Nat→Prop} {p:Int} {ev tv:Value} {es ces:List En} {toZ:Bytes} {i l:Nat} {a:En} {lv:Int} (w:World) (hlv:lv=(l:Int)+1) (h:TrS w tb db pb fr D ps S) (ho:D.on=true)
  (he:Rd kdEn w S ev es) (ht:Bsf w S tv toZ) (ha:es[i]? = some a) (hpg:a.page < ps.length) (hl:l≤4096) (hok:NdOk ps.length l ces) (hB:blkOf D fr a.page=sealL 3 (bodyL l ces))
  (hk:ces.head?.map En.key=some a.key) (hg:∀ c,ces.getLast? = some c→aheadB c.key (endK es toZ i)=true) :
  Calls Tryz.prog 181 #[ptr tb,ndv p lv ev tv, .int .i64 (i:Int)] w fun e w' =>
   ∃ v,e = .returned (.tuple #[v,err 0])∧Nv w' S v ⟨a.page,l,ces,endK es toZ i⟩∧Below w.heap.size w w':=by
 obtain ⟨g,o,cap,ka,kc,va,vc,rfl,hgl,c0,c1,c2,hka,hva⟩:=he.ent ha
 obtain ⟨ta,tc,rfl,_⟩:=ht.1.shape
 have hi:=(List.getElem?_eq_some_iff.1 ha).1
 have hlen:=he.len
 have hil:(i:Int) < (es.length:Int):=by omega
 have hb0:Below w.heap.size w ((w.alloc (.cells #[.int .i64 p, .int .i64 lv, .slice (some ⟨g,o,none⟩) es.length cap, .slice ta toZ.length tc] 179)).alloc (.cells #[.int .i64 0, .int .i64 0, .slice none 0 0, .slice none 0 0] 179)) :=
  ((Below.refl _ _).alloc (Nat.le_refl _) _).alloc (by simp) _
 obtain ⟨W,hW⟩:∃ W,W=(w.alloc (.cells #[.int .i64 p, .int .i64 lv, .slice (some ⟨g,o,none⟩) es.length cap, .slice ta toZ.length tc] 179)).alloc (.cells #[.int .i64 0, .int .i64 0, .slice none 0 0, .slice none 0 0] 179):=⟨_,rfl⟩
 have CN:Cel W w.heap.size [.int .i64 p, .int .i64 lv, .slice (some ⟨g,o,none⟩) es.length cap, .slice ta toZ.length tc] 179:=by rw [hW]; exact (Cel.new w _ _).alloc _
 have CR:Cel W (w.heap.size+1) [.int .i64 0, .int .i64 0, .slice none 0 0, .slice none 0 0] 179:=by
  rw [hW]
  have:=Cel.new (w.alloc (.cells #[.int .i64 p, .int .i64 lv, .slice (some ⟨g,o,none⟩) es.length cap, .slice ta toZ.length tc] 179)) #[.int .i64 0, .int .i64 0, .slice none 0 0, .slice none 0 0] 179
  simpa using this
 have hzW:W.heap.size=w.heap.size+2:=by rw [hW]; simp
 rw [← hW] at hb0
 have R:=tread_any W ((h.below hb0).more (S':=fun q=>S q∨q=w.heap.size+1) (fun q h=>.inl h) (fun q hq=>hq.elim ((h.below hb0).lt q) (fun e=>by omega)) (fun hq=>hq.elim h.tlt.2 (fun e=>by have:=h.tlt.1; omega))) ho a.page hpg
 have k2:W.cell? ⟨g,o+i*3+2,none⟩=some (.int .i64 (a.page:Nat)):=(hb0.cell (p:=⟨g,o+i*3+2,none⟩) hgl).trans c2
 have n2:W.cell? ⟨w.heap.size,2,none⟩=some (.slice (some ⟨g,o,none⟩) es.length cap):=CN.cell 2
 have HH:=Lib.hid (anZ h (anZ he (anZ ht (anZ hb0 (anZ CN (anZ CR (anZ hzW hka)))))))
 have H2:=Lib.hid (anZ hok (anZ hB (anZ hk (anZ hg (anZ ha (anZ c0 (anZ hgl hpg)))))))
 rw [hW] at R k2 n2
 clear h he ht hb0 CN CR hzW hka hok hB hk hg ha c0 c1 c2 hva hpg
 have HW:=Lib.hid hW
 have HLV:=Lib.hid hlv
 clear hW hlv
 go_enter Tryz.func181,Tryz.ntmps181
 go_wp2_with fail
 refine R.mono ?_
 rintro e w1 ⟨nv,r,rfl,hs,hn,hb1⟩
 clear R k2 n2
 obtain ⟨h,he,ht,hb0,CN,CR,hzW,hka⟩:=HH.out
 obtain ⟨hok,hB,hk,hg,ha,c0,hgl,hpg⟩:=H2.out
 rw [← HW.out] at hb1
 rw [hB] at hs
 obtain rfl:=says_seal hok.may (fun e he=>(hok.1.2.2.2 e he).2.2.2) hok.1.2.1 (by omega) hs
 obtain ⟨ca,cc,da,dc,rfl,hce,hcd⟩:=hn
 have hbw:=hb0.trans (hb1.mono hb0.size)
 have hbc:Below w1.heap.size w1 (w1.alloc (.cells #[.int .i64 (a.page:Int), .int .i64 (l:Int), .slice ca ces.length cc, .slice da 0 dc] 179)):=(Below.refl _ _).alloc (Nat.le_refl _) _
 have hbw2:=hbw.trans (hbc.mono hbw.size)
 have hsz1:w.heap.size≤w1.heap.size:=hbw.size
 have stx:Step S w (w1.alloc (.cells #[.int .i64 (a.page:Int), .int .i64 (l:Int), .slice ca ces.length cc, .slice da 0 dc] 179)) (fun q=>(S q∨q=w.heap.size+1)∨q=w1.heap.size):=⟨Only.of_below hbw2 S,fun q hq=>hq.elim (fun hq=>hq.elim .inl fun e=>.inr (by omega)) fun e=>.inr (by omega)⟩
 have N:=end_any (p:=p) (l:=lv) i _ (he.step stx) (ht.step stx) hi
 have hzw1:w.heap.size+2≤w1.heap.size:=by have:=hb1.size; omega
 have CN2:=(CN.below hb1 CN.lt).below hbc (by omega)
 have CR2:=(CR.below hb1 CR.lt).below hbc (by omega)
 have CC2:Cel (w1.alloc (.cells #[.int .i64 (a.page:Int), .int .i64 (l:Int), .slice ca ces.length cc, .slice da 0 dc] 179)) w1.heap.size [.int .i64 (a.page:Int), .int .i64 (l:Int), .slice ca ces.length cc, .slice da 0 dc] 179:=Cel.new w1 _ _
 have hzc:(w1.alloc (.cells #[.int .i64 (a.page:Int), .int .i64 (l:Int), .slice ca ces.length cc, .slice da 0 dc] 179)).heap.size=w1.heap.size+1:=by simp
 have H3:=Lib.hid (anZ hce (anZ hbw2 (anZ CN2 (anZ CR2 (anZ CC2 (anZ hzc (anZ hzw1 hbc)))))))
 have CN1:=CN.below hb1 CN.lt
 have q0:w1.cell? ⟨w.heap.size,0,none⟩=some (.int .i64 p):=CN1.cell 0
 have q1:w1.cell? ⟨w.heap.size,1,none⟩=some (.int .i64 lv):=CN1.cell 1
 have q2:w1.cell? ⟨w.heap.size,2,none⟩=some (.slice (some ⟨g,o,none⟩) es.length cap):=CN1.cell 2
 have q3:w1.cell? ⟨w.heap.size,3,none⟩=some (.slice ta toZ.length tc):=CN1.cell 3
 have hlt1:w.heap.size < w1.heap.size:=by omega
 have hlt2:w.heap.size+1 < w1.heap.size:=by omega
 clear CN1 h he ht hb0 CN CR hzW hka hok hB hk hg ha c0 hgl hpg hs hce hcd hbw hbc hbw2 CN2 CR2 CC2 hzc hzw1 hb1
 simp only [Option.isSome]
 go_wp2_with fail
 refine N.mono ?_
 rintro e w3 ⟨xv,rfl,hx,hb3⟩
 clear N
 obtain ⟨hce,hbw2,CN2,CR2,CC2,hzc,hzw1,hbc⟩:=H3.out
 have CC3:=CC2.below hb3 CC2.lt
 have m3:w3.cell? ⟨w1.heap.size,3,none⟩=some (.slice da 0 dc):=CC3.cell 3
 have m1:w3.cell? ⟨w1.heap.size,1,none⟩=some (.int .i64 (l:Int)):=CC3.cell 1
 have mf:=CC3.frozen 3
 obtain ⟨xa,xc,rfl,_⟩:=hx.1.shape
 have H4:=Lib.hid (anZ hx hb3)
 clear hce hbw2 CN2 CR2 CC2 hzc hzw1 hbc CC3 hx hb3
 go_wp2_with fail
 generalize hW4:w3.setCell ⟨w1.heap.size,3,none⟩ (.slice xa (endK es toZ i).length xc)=W4 at *
 obtain ⟨hce,hbw2,CN2,CR2,CC2,hzc,hzw1,hbc⟩:=H3.out
 obtain ⟨hx,hb3⟩:=H4.out
 obtain ⟨h,he,ht,hb0,CN,CR,hzW,hka⟩:=HH.out
 obtain ⟨hok,hB,hk,hg,ha,c0,hgl,hpg⟩:=H2.out
 have CC4:Cel W4 w1.heap.size [.int .i64 (a.page:Int), .int .i64 (l:Int), .slice ca ces.length cc, .slice xa (endK es toZ i).length xc] 179:=by rw [← hW4]; exact (CC2.below hb3 CC2.lt).set 3 _
 have hb34:Below w1.heap.size w1 W4:=by
  rw [← hW4]
  exact (hbc.trans (hb3.mono (by omega))).setCell (p:=⟨w1.heap.size,3,none⟩) (Nat.le_refl _) _
 have hbw4:Below w.heap.size w W4:=by
  rw [← hW4]
  exact (hbw2.trans (hb3.mono hbw2.size)).setCell (p:=⟨w1.heap.size,3,none⟩) (by show w.heap.size≤w1.heap.size; omega) _
 have CN4:Cel W4 w.heap.size [.int .i64 p, .int .i64 lv, .slice (some ⟨g,o,none⟩) es.length cap, .slice ta toZ.length tc] 179:=by
  rw [← hW4]
  exact (CN2.below hb3 CN2.lt).kept (Below.heap_setCell _ _ _ _ (by show w.heap.size≠w1.heap.size; omega))
 have CR4:Cel W4 (w.heap.size+1) [.int .i64 0, .int .i64 0, .slice none 0 0, .slice none 0 0] 179:=by
  rw [← hW4]
  exact (CR2.below hb3 CR2.lt).kept (Below.heap_setCell _ _ _ _ (by show w.heap.size+1≠w1.heap.size; omega))
 have hx4:Bsf W4 (fun q=>S q∨q=w.heap.size+1) (.slice xa (endK es toZ i).length xc) (endK es toZ i):=by
  rw [← hW4]
  exact hx.step (((Step.refl (fun q=>(S q∨q=w.heap.size+1)∨q=w1.heap.size) w3).set (p:=⟨w1.heap.size,3,none⟩) (.inr rfl) _).weak fun q h=>.inl h)
 have hce4:Rd kdEn W4 (fun q=>S q∨q=w.heap.size+1) (.slice ca ces.length cc) ces:=hce.step (Step.of_below hb34 _)
 have FF:∀ W,Below W4.heap.size W4 W→W.cell? ⟨w.heap.size,1,none⟩=some (.int .i64 lv)∧W.cell? ⟨w.heap.size,2,none⟩=some (.slice (some ⟨g,o,none⟩) es.length cap)∧W.cell? ⟨w1.heap.size,0,none⟩=some (.int .i64 (a.page:Int))∧W.cell? ⟨w1.heap.size,1,none⟩=some (.int .i64 (l:Int))∧W.cell? ⟨w1.heap.size,2,none⟩=some (.slice ca ces.length cc)∧W.cell? ⟨w1.heap.size,3,none⟩=some (.slice xa (endK es toZ i).length xc)∧W.cell? ⟨g,o+i*3,none⟩=some (.slice ka a.key.length kc):=fun W hb=>by
  refine ⟨(hb.cell (p:=⟨w.heap.size,1,none⟩) CN4.lt).trans (CN4.cell 1),(hb.cell (p:=⟨w.heap.size,2,none⟩) CN4.lt).trans (CN4.cell 2),(hb.cell (p:=⟨w1.heap.size,0,none⟩) CC4.lt).trans (CC4.cell 0),
   (hb.cell (p:=⟨w1.heap.size,1,none⟩) CC4.lt).trans (CC4.cell 1),(hb.cell (p:=⟨w1.heap.size,2,none⟩) CC4.lt).trans (CC4.cell 2),(hb.cell (p:=⟨w1.heap.size,3,none⟩) CC4.lt).trans (CC4.cell 3),?_⟩
  exact (hb.cell (p:=⟨g,o+i*3,none⟩) (Nat.lt_of_lt_of_le hgl hbw4.size)).trans ((hbw4.cell (p:=⟨g,o+i*3,none⟩) hgl).trans c0)
 have hwr:IntKind.i64.wrap (lv-1)=(l:Int):=by rw [HLV.out,IntKind.wrap_i64]; omega
 have hi0:(0:Int)≤(i:Int):=by omega
 have HX:=Lib.hid (fun (W:World) (hW:W.cell? ⟨w.heap.size,1,none⟩=some (.int .i64 lv)∧W.cell? ⟨w.heap.size,2,none⟩=some (.slice (some ⟨g,o,none⟩) es.length cap)∧W.cell? ⟨w1.heap.size,0,none⟩=some (.int .i64 (a.page:Int))∧W.cell? ⟨w1.heap.size,1,none⟩=some (.int .i64 (l:Int))∧W.cell? ⟨w1.heap.size,2,none⟩=some (.slice ca ces.length cc)∧W.cell? ⟨w1.heap.size,3,none⟩=some (.slice xa (endK es toZ i).length xc)∧W.cell? ⟨g,o+i*3,none⟩=some (.slice ka a.key.length kc))=>anZ hW (anZ hwr (anZ hil hi0)))
 obtain ⟨a0,r0,hces⟩:∃ a0 r0,ces=a0::r0:=List.exists_cons_of_ne_nil hok.1.1
 have hk0:a0.key=a.key:=by rw [hces] at hk; simpa using hk
 have hc0:ces[0]? = some a0:=by rw [hces]; rfl
 obtain ⟨k,hkl⟩:∃ k,ces.length=k+1:=⟨r0.length,by rw [hces]; rfl⟩
 obtain ⟨az,haz⟩:∃ az,ces[k]? = some az:=⟨_,List.getElem?_eq_getElem (by omega)⟩
 have haz2:ces.getLast? = some az:=by rw [List.getLast?_eq_getElem?,hkl]; exact haz
 have hah:=hg az haz2
 have LL:=fun W (hb:Below W4.heap.size W4 W)=>least_any (p:=(a.page:Int)) (l:=(l:Int)) (tv:=.slice xa (endK es toZ i).length xc) (a:=a0) W (hce4.step (Step.of_below hb _)) hc0
 have GG:=fun W (hb:Below W4.heap.size W4 W)=>tgreatest_any (p:=(a.page:Int)) (l:=(l:Int)) (tv:=.slice xa (endK es toZ i).length xc) W (hce4.step (Step.of_below hb _)) hkl haz
 have HL:=Lib.hid (anZ LL (anZ GG FF))
 have H5:=Lib.hid (anZ CC4 (anZ CR4 (anZ hbw4 (anZ hce4 (anZ hx4 (anZ hah hk0))))))
 have hka4:Bs W4 (.slice ka a.key.length kc) a.key:=hka.1.below hbw4
 have HK:=Lib.hid hka4
 have hd1:Below W4.heap.size W4 W4.drew:=(Below.refl _ _).drew
 clear hkl hces hc0 hce hbw2 CN2 CR2 CC2 hzc hzw1 hbc hx hb3 h he ht hb0 CN CR hzW hka hok hB hk hg ha c0 hgl hpg CC4 hb34 hbw4 CN4 CR4 hx4 hce4 FF hwr hi0 LL GG hka4 haz haz2 hah hk0 q0 q1 q2 q3 hW4 hil HH H2 H3 H4
 refine region_till 99 (fun W=>W.cell? ⟨w.heap.size,1,none⟩=some (.int .i64 lv)∧W.cell? ⟨w.heap.size,2,none⟩=some (.slice (some ⟨g,o,none⟩) es.length cap)∧W.cell? ⟨w1.heap.size,0,none⟩=some (.int .i64 (a.page:Int))∧W.cell? ⟨w1.heap.size,1,none⟩=some (.int .i64 (l:Int))∧W.cell? ⟨w1.heap.size,2,none⟩=some (.slice ca ces.length cc)∧W.cell? ⟨w1.heap.size,3,none⟩=some (.slice xa (endK es toZ i).length xc)∧W.cell? ⟨g,o+i*3,none⟩=some (.slice ka a.key.length kc)) (by kernel_rfl) (HL.out.2.2 _ hd1) (fun hS=>?_)
 refine tkZ (i:=0) 29 (.pointer (some ⟨w1.heap.size,1,none⟩)) rfl rfl (by kernel_rfl) (fun _ _ _ h=>h) (by rfl) (fun W hW=>?_) hS ?_
 ·have hx:=HX.out W hW
  clear hW
  go_simp
 simp only [Act.put,sAZ,sBZ,sCZ]
 refine tkZ (i:=1) 30 (.int .i64 (l:Int)) rfl rfl (by kernel_rfl) (fun _ _ _ h=>h) (by rfl) (fun W hW=>?_) hS ?_
 ·have hx:=HX.out W hW
  clear hW
  go_simp
 simp only [Act.put,sAZ,sBZ,sCZ]
 refine tkZ (i:=2) 31 (.pointer (some ⟨w.heap.size,1,none⟩)) rfl rfl (by kernel_rfl) (fun _ _ _ h=>h) (by rfl) (fun W hW=>?_) hS ?_
 ·have hx:=HX.out W hW
  clear hW
  go_simp
 simp only [Act.put,sAZ,sBZ,sCZ]
 refine tkZ (i:=3) 32 (.int .i64 lv) rfl rfl (by kernel_rfl) (fun _ _ _ h=>h) (by rfl) (fun W hW=>?_) hS ?_
 ·have hx:=HX.out W hW
  clear hW
  go_simp
 simp only [Act.put,sAZ,sBZ,sCZ]
 refine tkZ (i:=4) 33 (.int .i64 (l:Int)) rfl rfl (by kernel_rfl) (fun _ _ _ h=>h) (by rfl) (fun W hW=>?_) hS ?_
 ·have hx:=HX.out W hW
  clear hW
  go_simp
 simp only [Act.put,sAZ,sBZ,sCZ]
 refine tkZ (i:=5) 34 (.bool false) rfl rfl (by kernel_rfl) (fun _ _ _ h=>h) (by rfl) (fun W hW=>?_) hS ?_
 ·have hx:=HX.out W hW
  clear hW
  go_simp
 simp only [Act.put,sAZ,sBZ,sCZ]
 refine tkZ (i:=6) 35 (.bool false) rfl rfl (by kernel_rfl) (fun _ _ _ h=>h) (by rfl) (fun W hW=>?_) hS ?_
 ·have hx:=HX.out W hW
  clear hW
  go_simp
 simp only [Act.put,sAZ,sBZ,sCZ]
 refine tkZ (i:=7) 36 (ndv (a.page:Int) (l:Int) (.slice ca ces.length cc) (.slice xa (endK es toZ i).length xc)) rfl rfl (by kernel_rfl) (fun _ _ _ h=>h) (by rfl) (fun W hW=>?_) hS ?_
 ·have hx:=HX.out W hW
  clear hW
  go_simp
 simp only [Act.put,sAZ,sBZ,sCZ]
 refine tkZ (i:=9) 38 (.pointer (some ⟨w.heap.size,2,none⟩)) rfl rfl (by kernel_rfl) (fun _ _ _ h=>h) (by rfl) (fun W hW=>?_) hS ?_
 ·have hx:=HX.out W hW
  clear hW
  go_simp
 simp only [Act.put,sAZ,sBZ,sCZ]
 refine tkZ (i:=10) 39 (.slice (some ⟨g,o,none⟩) es.length cap) rfl rfl (by kernel_rfl) (fun _ _ _ h=>h) (by rfl) (fun W hW=>?_) hS ?_
 ·have hx:=HX.out W hW
  clear hW
  go_simp
 simp only [Act.put,sAZ,sBZ,sCZ]
 refine tkZ (i:=11) 40 (.int .i64 (i:Int)) rfl rfl (by kernel_rfl) (fun _ _ _ h=>h) (by rfl) (fun W hW=>?_) hS ?_
 ·have hx:=HX.out W hW
  clear hW
  go_simp
 simp only [Act.put,sAZ,sBZ,sCZ]
 refine tkZ (i:=12) 41 (.pointer (some ⟨g,o+i*3,none⟩)) rfl rfl (by kernel_rfl) (fun _ _ _ h=>h) (by rfl) (fun W hW=>?_) hS ?_
 ·have hx:=HX.out W hW
  clear hW
  go_simp
 simp only [Act.put,sAZ,sBZ,sCZ]
 refine tkZ (i:=13) 42 (.pointer (some ⟨g,o+i*3,none⟩)) rfl rfl (by kernel_rfl) (fun _ _ _ h=>h) (by rfl) (fun W hW=>?_) hS ?_
 ·have hx:=HX.out W hW
  clear hW
  go_simp
 simp only [Act.put,sAZ,sBZ,sCZ]
 refine tkZ (i:=14) 43 (.slice ka a.key.length kc) rfl rfl (by kernel_rfl) (fun _ _ _ h=>h) (by rfl) (fun W hW=>?_) hS ?_
 ·have hx:=HX.out W hW
  clear hW
  go_simp
 simp only [Act.put,sAZ,sBZ,sCZ]
 refine next_till 8 (by kernel_rfl) rfl (fun K hK=>?_)
 go_simp
 refine (HL.out.1 _ hd1).mono ?_
 rintro e w5 ⟨lv5,rfl,hl5,hb5⟩
 have hd2:=hd1.trans (hb5.mono hd1.size)
 refine hK.out _ _ (fun _=>HL.out.2.2 _ hd2) ?_
 clear hK K
 have hS:=HL.out.2.2 _ hd2
 obtain ⟨CC4,CR4,hbw4,hce4,hx4,hah,hk0⟩:=H5.out
 have O:=order_cmp w5 hl5.1 (HK.out.below hd2)
 rw [hk0,cmp_refl] at O
 have H6:=Lib.hid (anZ hd2 hx4)
 clear CC4 CR4 hbw4 hce4 hx4 hah hk0 hl5 hb5 hd2
 refine next_till 15 (by kernel_rfl) rfl (fun K hK=>?_)
 go_simp
 refine O.mono ?_
 rintro e w6 ⟨rfl,rfl⟩
 refine hK.out _ _ (fun _=>hS) ?_
 clear hK K O
 refine tkZ (i:=16) 45 (.bool false) rfl rfl (by kernel_rfl) (fun _ _ _ h=>h) (by rfl) (fun W hW=>?_) hS ?_
 ·have hx:=HX.out W hW
  clear hW
  go_simp
 simp only [Act.put,sAZ,sBZ,sCZ]
 refine tkZ (i:=17) 46 (.bool false) rfl rfl (by kernel_rfl) (fun _ _ _ h=>h) (by rfl) (fun W hW=>?_) hS ?_
 ·have hx:=HX.out W hW
  clear hW
  go_simp
 simp only [Act.put,sAZ,sBZ,sCZ]
 refine tkZ (i:=18) 47 (.bool false) rfl rfl (by kernel_rfl) (fun _ _ _ h=>h) (by rfl) (fun W hW=>?_) hS ?_
 ·have hx:=HX.out W hW
  clear hW
  go_simp
 simp only [Act.put,sAZ,sBZ,sCZ]
 refine tkZ (i:=19) 48 (ndv (a.page:Int) (l:Int) (.slice ca ces.length cc) (.slice xa (endK es toZ i).length xc)) rfl rfl (by kernel_rfl) (fun _ _ _ h=>h) (by rfl) (fun W hW=>?_) hS ?_
 ·have hx:=HX.out W hW
  clear hW
  go_simp
 simp only [Act.put,sAZ,sBZ,sCZ]
 refine tkZ (i:=21) 50 (.pointer (some ⟨w1.heap.size,3,none⟩)) rfl rfl (by kernel_rfl) (fun _ _ _ h=>h) (by rfl) (fun W hW=>?_) hS ?_
 ·have hx:=HX.out W hW
  clear hW
  go_simp
 simp only [Act.put,sAZ,sBZ,sCZ]
 refine tkZ (i:=22) 51 (.slice xa (endK es toZ i).length xc) rfl rfl (by kernel_rfl) (fun _ _ _ h=>h) (by rfl) (fun W hW=>?_) hS ?_
 ·have hx:=HX.out W hW
  clear hW
  go_simp
 simp only [Act.put,sAZ,sBZ,sCZ]
 refine next_till 20 (by kernel_rfl) rfl (fun K hK=>?_)
 go_simp
 refine (HL.out.2.1 _ H6.out.1).mono ?_
 rintro e w6 ⟨gv,rfl,hgv,hb6⟩
 have hd3:=H6.out.1.trans (hb6.mono H6.out.1.size)
 refine hK.out _ _ (fun _=>HL.out.2.2 _ hd3) ?_
 clear hK K hS
 have hS:=HL.out.2.2 _ hd3
 have A:=ahead_any w6 hgv.1 (H6.out.2.1.below hd3)
 rw [H5.out.2.2.2.2.2.1] at A
 have H7:=Lib.hid hd3
 clear hgv hb6 hd3
 refine next_till 23 (by kernel_rfl) rfl (fun K hK=>?_)
 go_simp
 refine A.mono ?_
 rintro e w7 ⟨rfl,rfl⟩
 refine hK.out _ _ (fun _=>hS) ?_
 clear hK K A
 refine tkZ (i:=24) 53 (.bool false) rfl rfl (by kernel_rfl) (fun _ _ _ h=>h) (by rfl) (fun W hW=>?_) hS ?_
 ·have hx:=HX.out W hW
  clear hW
  go_simp
 simp only [Act.put,sAZ,sBZ,sCZ]
 refine next_till 25 (by kernel_rfl) rfl (fun K hK=>?_)
 go_simp
 refine hK.out _ _ (fun _=>hS) ?_
 clear hK K
 refine done_till (by kernel_rfl) ?_ _
 obtain ⟨s1,s2,s3,s4,s5,s6,s7⟩:=hS
 have CR6:=H5.out.2.1.below H7.out H5.out.2.1.lt
 have r0:w6.cell? ⟨w.heap.size+1,0,none⟩=some (.int .i64 0):=CR6.cell 0
 have r1:w6.cell? ⟨w.heap.size+1,1,none⟩=some (.int .i64 0):=CR6.cell 1
 have r2:w6.cell? ⟨w.heap.size+1,2,none⟩=some (.slice none 0 0):=CR6.cell 2
 have r3:w6.cell? ⟨w.heap.size+1,3,none⟩=some (.slice none 0 0):=CR6.cell 3
 have f0:=CR6.frozen 0
 have f1:=CR6.frozen 1
 have f2:=CR6.frozen 2
 have f3:=CR6.frozen 3
 have H8:=Lib.hid CR6
 clear HX HL CR6
 go_wp2
 obtain ⟨CC4,CR4,hbw4,hce4,hx4,hah,hk0⟩:=H5.out
 have C9:=(((H8.out.set 0 (.int .i64 (a.page:Int))).set 1 (.int .i64 (l:Int))).set 2 (.slice ca ces.length cc)).set 3 (.slice xa (endK es toZ i).length xc)
 have st:=(((((Step.of_below H7.out (fun q=>S q∨q=w.heap.size+1)).set (p:=⟨w.heap.size+1,0,none⟩) (.inr rfl) (.int .i64 (a.page:Int))).set (p:=⟨w.heap.size+1,1,none⟩) (.inr rfl) (.int .i64 (l:Int))).set (p:=⟨w.heap.size+1,2,none⟩) (.inr rfl) (.slice ca ces.length cc)).set (p:=⟨w.heap.size+1,3,none⟩) (.inr rfl) (.slice xa (endK es toZ i).length xc)).weak (S'':=S) fun q h=>.inl h
 have B9:=((((hbw4.trans (H7.out.mono hbw4.size)).setCell (p:=⟨w.heap.size+1,0,none⟩) (Nat.le_succ _) (.int .i64 (a.page:Int))).setCell (p:=⟨w.heap.size+1,1,none⟩) (Nat.le_succ _) (.int .i64 (l:Int))).setCell (p:=⟨w.heap.size+1,2,none⟩) (Nat.le_succ _) (.slice ca ces.length cc)).setCell (p:=⟨w.heap.size+1,3,none⟩) (Nat.le_succ _) (.slice xa (endK es toZ i).length xc)
 exact bodyPost_ret (tresults_cell2 (g:=w.heap.size+1) rfl rfl C9 Tryz.underlying179 rfl (by kernel_rfl)) rfl ⟨_,rfl,Nv.of (n:=⟨(a.page:Int),l,ces,endK es toZ i⟩) (hce4.step st) (hx4.step st),B9⟩
end Go.Proofs.YtgkofgifoiinkaaGreat
namespace Go.Proofs.YtgkofgifoiinkaaGreat
section
variable {P:Program} {ops:Array Oper} {Q:Exit→Act→World→Prop} {md:Region.Mode} {S:World→Prop} {t:Nat}
def AnyUpto (P:Program) (md:Region.Mode) (ops:Array Oper) (Q:Exit→Act→World→Prop) (S:World→Prop) (t:Nat):Nat→Array Bool→Act→World→Prop
 | 0,listed,a,w=>Region.ready md ops listed=[]∧Q .normal a w
 | n+1,listed,a,w=>(Region.ready md ops listed=[]→Q .normal a w) ∧
   ∀ i∈Region.ready md ops listed,wpOp P ops Q i (fun a' w'=>((listed.setIfInBounds i true).getD t true=false→S w')∧AnyUpto P md ops Q S t n (listed.setIfInBounds i true) a' w') a w
theorem AnyUpto.any:∀ (n:Nat) (listed:Array Bool) (a:Act) (w:World),AnyUpto P md ops Q S t n listed a w→wpAny P md ops Q n listed a w
 | 0,_,_,_,h=>h
 | n+1,_,_,_,h=>⟨h.1,fun i hi=>wpOp_mono (fun a' w' hh=>AnyUpto.any n _ a' w' hh.2) (h.2 i hi)⟩
theorem AnyUpto.first {i:Nat} {oi:Oper} {v:Value} (hi:ops[i]? = some oi) (hwait:∀ ot,ops[t]? = some ot→∃ e∈ot.after,Region.binds md e=true∧e.on=i)
  (hsel:∀ (j:Nat) (o:Oper) cs b,ops[j]? = some o→o.op ≠ .select cs b) (hQ:∀ c a w,Q (.panic c) (a.put oi.dst v) w→Q (.panic c) a w) :
  ∀ (n:Nat) (listed:Array Bool) (a:Act) (w:World),
   (∀ j oj,ops[j]? = some oj→j≠i→listed.getD j true=false→(∀ e∈oj.after,Region.binds md e=true→e.on≠i)→oi.apart ops oj=true) →
   i∈Region.ready md ops listed→YieldsIf P ops S oi v a→S w→i≠t→listed.getD t true=false →
   AnyUpto P md ops Q S t n (listed.setIfInBounds i true) (a.put oi.dst v) w→AnyUpto P md ops Q S t (n+1) listed a w:=by
 intro n
 induction n with
 | zero =>
  intro listed a w _ hr hy hS hit hlt H
  refine ⟨fun h=>absurd hr (by rw [h]; simp),fun j hj=>?_⟩
  rcases Decidable.em (j=i) with rfl | hji
  ·exact hy.wpOp hi hS ⟨fun _=>hS,H⟩
  ·exact absurd (ready_mono hj hji) (by rw [H.1]; simp)
 | succ n ih =>
  intro listed a w hfree hr hy hS hit hlt H
  refine ⟨fun h=>absurd hr (by rw [h]; simp),fun j hj=>?_⟩
  rcases Decidable.em (j=i) with rfl | hji
  ·exact hy.wpOp hi hS ⟨fun _=>hS,H⟩
  obtain ⟨hun,oj,hoj,_⟩:=mem_ready.1 hj
  have hno:=ready_waits hr hj hoj
  have hjt:j≠t:=by
   rintro rfl
   obtain ⟨e,he,hb,hon⟩:=hwait oj hoj
   exact hno e he hb hon
  have hl1:(listed.setIfInBounds j true).getD t true=false:=by rw [getD_set_ne true hjt]; exact hlt
  have hl2:((listed.setIfInBounds i true).setIfInBounds j true).getD t true=false:=by rw [getD_set_ne true hjt,getD_set_ne true hit]; exact hlt
  have step:=wpOp_putIf hoj (hfree j oj hoj hji hun hno) (fun cs b=>hsel i oi cs b hi) (fun cs b=>hsel j oj cs b hoj) hQ hy (H.2 j (ready_mono hj hji))
  refine wpOp_mono (fun a' w' ⟨hy',hS',hrest⟩=>⟨fun _=>hS' hl2,ih _ a' w' (fun k ok hk hki hunk hnk=>?_) (ready_mono hr (fun e=>hji e.symm)) hy' (hS' hl2) hit hl1 ?_⟩) step
  ·refine hfree k ok hk hki ?_ hnk
   rcases Decidable.em (j=k) with rfl | hjk
   ·exact hun
   ·rwa [getD_set_ne true hjk] at hunk
  ·rw [Array.setIfInBounds_comm _ _ hji]
   exact hrest
theorem AnyUpto.free {i:Nat} {oi:Oper} {v:Value} (hi:ops[i]? = some oi)
  (hsel:∀ (j:Nat) (o:Oper) cs b,ops[j]? = some o→o.op ≠ .select cs b) (hQ:∀ c a w,Q (.panic c) (a.put oi.dst v) w→Q (.panic c) a w) :
  ∀ (n:Nat) (listed:Array Bool) (a:Act) (w:World),
   (∀ j oj,ops[j]? = some oj→j≠i→listed.getD j true=false→(∀ e∈oj.after,Region.binds md e=true→e.on≠i)→oi.apart ops oj=true) →
   i∈Region.ready md ops listed→YieldsIf P ops (fun _=>True) oi v a→(listed.getD t true=false→S w)→i≠t →
   AnyUpto P md ops Q S t n (listed.setIfInBounds i true) (a.put oi.dst v) w→AnyUpto P md ops Q S t (n+1) listed a w:=by
 intro n
 induction n with
 | zero =>
  intro listed a w _ hr hy hS hit H
  refine ⟨fun h=>absurd hr (by rw [h]; simp),fun j hj=>?_⟩
  rcases Decidable.em (j=i) with rfl | hji
  ·exact hy.wpOp hi trivial ⟨fun h=>hS (by rwa [getD_set_ne true hit] at h),H⟩
  ·exact absurd (ready_mono hj hji) (by rw [H.1]; simp)
 | succ n ih =>
  intro listed a w hfree hr hy hS hit H
  refine ⟨fun h=>absurd hr (by rw [h]; simp),fun j hj=>?_⟩
  rcases Decidable.em (j=i) with rfl | hji
  ·exact hy.wpOp hi trivial ⟨fun h=>hS (by rwa [getD_set_ne true hit] at h),H⟩
  obtain ⟨hun,oj,hoj,_⟩:=mem_ready.1 hj
  have hno:=ready_waits hr hj hoj
  have step:=wpOp_putIf hoj (hfree j oj hoj hji hun hno) (fun cs b=>hsel i oi cs b hi) (fun cs b=>hsel j oj cs b hoj) hQ hy (H.2 j (ready_mono hj hji))
  have hs2:∀ w',(((listed.setIfInBounds i true).setIfInBounds j true).getD t true=false→S w')→(listed.setIfInBounds j true).getD t true=false→S w':=fun w' hh h=>hh (by
   rw [Array.setIfInBounds_comm _ _ (fun e=>hji e.symm),getD_set_ne true hit]
   exact h)
  refine wpOp_mono (fun a' w' ⟨hy',hS',hrest⟩=>⟨hs2 w' hS',ih _ a' w' (fun k ok hk hki hunk hnk=>?_) (ready_mono hr (fun e=>hji e.symm)) hy' (hs2 w' hS') hit ?_⟩) step
  ·refine hfree k ok hk hki ?_ hnk
   rcases Decidable.em (j=k) with rfl | hjk
   ·exact hun
   ·rwa [getD_set_ne true hjk] at hunk
  ·rw [Array.setIfInBounds_comm _ _ hji]
   exact hrest
theorem take_upto {i:Nat} {oi:Oper} (d:Option Tmp) (v:Value) {n:Nat} {listed:Array Bool} {a:Act} {w:World} (hi:ops[i]? = some oi) (hd:oi.dst=d) (hs:Region.noSelect ops=true) (hf:Region.free md ops listed i=true)
  (hr:(Region.ready md ops listed).contains i=true) (hwt:waitsB md ops t i=true) (hlt:listed.getD t true=false) (hit:i≠t) (hQ:∀ c a w,Q (.panic c) (a.put d v) w→Q (.panic c) a w)
  (hw:Region.wanted oi (yielded ops a.tmps)=true) (hy:∀ w,S w→(execOp a.eval oi).run P w = .ok (.value v) w) (hS:S w)
  (h:AnyUpto P md ops Q S t n (listed.setIfInBounds i true) (a.put d v) w):AnyUpto P md ops Q S t (n+1) listed a w:=by
 subst hd
 refine AnyUpto.first hi (fun ot hot=>?_) (Region.noSelect_spec hs) hQ n listed a w (Region.free_spec hi hf) (by simpa using hr) (.inl ⟨hw,hy⟩) hS hit hlt h
 unfold waitsB at hwt
 rw [hot] at hwt
 obtain ⟨e,he,hb⟩:=Array.any_eq_true'.1 hwt
 simp only [Bool.and_eq_true,beq_iff_eq] at hb
 exact ⟨e,he,hb.1,hb.2⟩
theorem pure_upto {i:Nat} {oi:Oper} (d:Option Tmp) (v:Value) {n:Nat} {listed:Array Bool} {a:Act} {w:World} (hi:ops[i]? = some oi) (hd:oi.dst=d) (hs:Region.noSelect ops=true) (hf:Region.free md ops listed i=true)
  (hr:(Region.ready md ops listed).contains i=true) (hit:i≠t) (hQ:∀ c a w,Q (.panic c) (a.put d v) w→Q (.panic c) a w)
  (hw:Region.wanted oi (yielded ops a.tmps)=true) (hy:∀ w,(execOp a.eval oi).run P w = .ok (.value v) w) (hS:listed.getD t true=false→S w)
  (h:AnyUpto P md ops Q S t n (listed.setIfInBounds i true) (a.put d v) w):AnyUpto P md ops Q S t (n+1) listed a w:=by
 subst hd
 exact AnyUpto.free hi (Region.noSelect_spec hs) hQ n listed a w (Region.free_spec hi hf) (by simpa using hr) (.inl ⟨hw,fun w _=>hy w⟩) hS hit h
theorem next_upto (i:Nat) {o:Oper} {n:Nat} {listed:Array Bool} {a:Act} {w:World} (hr:Region.ready md ops listed=[i]) (ho:ops[i]? = some o)
  (h:∀ K:Act→World→Prop,Shut (∀ a w,((listed.setIfInBounds i true).getD t true=false→S w)→AnyUpto P md ops Q S t n (listed.setIfInBounds i true) a w→K a w)→if Region.wanted o (yielded ops a.tmps)=true then Oper.wp P o a w K Q else K (a.put o.dst undef) w) :
  AnyUpto P md ops Q S t (n+1) listed a w:=by
 refine ⟨fun h0=>(by rw [hr] at h0; cases h0),fun j hj=>?_⟩
 rw [hr] at hj
 obtain rfl:j=i:=by simpa using hj
 exact wpOp_step ho (fun K hK=>h K (fun a w hS hW=>hK a w ⟨hS,hW⟩))
theorem two_upto (i j:Nat) {oi oj:Oper} {n:Nat} {listed:Array Bool} {a:Act} {w:World} (hr:Region.ready md ops listed=[i,j]) (hi:ops[i]? = some oi) (hj:ops[j]? = some oj)
  (h1:∀ K:Act→World→Prop,Shut (∀ a w,((listed.setIfInBounds i true).getD t true=false→S w)→AnyUpto P md ops Q S t n (listed.setIfInBounds i true) a w→K a w)→if Region.wanted oi (yielded ops a.tmps)=true then Oper.wp P oi a w K Q else K (a.put oi.dst undef) w)
  (h2:∀ K:Act→World→Prop,Shut (∀ a w,((listed.setIfInBounds j true).getD t true=false→S w)→AnyUpto P md ops Q S t n (listed.setIfInBounds j true) a w→K a w)→if Region.wanted oj (yielded ops a.tmps)=true then Oper.wp P oj a w K Q else K (a.put oj.dst undef) w) :
  AnyUpto P md ops Q S t (n+1) listed a w:=by
 refine ⟨fun h0=>(by rw [hr] at h0; cases h0),fun x hx=>?_⟩
 rw [hr] at hx
 rcases List.mem_cons.1 hx with rfl | hx
 ·exact wpOp_step hi (fun K hK=>h1 K (fun a w hS hW=>hK a w ⟨hS,hW⟩))
 ·obtain rfl:=List.mem_singleton.1 hx
  exact wpOp_step hj (fun K hK=>h2 K (fun a w hS hW=>hK a w ⟨hS,hW⟩))
theorem done_upto {listed:Array Bool} {a:Act} {w:World} (hr:Region.ready md ops listed=[]) (h:Q .normal a w):∀ n,AnyUpto P md ops Q S t n listed a w
 | 0=>⟨hr,h⟩
 | _+1=>⟨fun _=>h,by rw [hr]; simp⟩
theorem region_upto {id:Nat} {a:Act} {w:World} (t:Nat) (S:World→Prop) (hm:P.follows .mixedOrders=true) (hS:S w.drew)
  (h:S w.drew→AnyUpto P .any ops Q S t ops.size (Array.replicate ops.size false) a w.drew):(Code.region id ops true).wp P Q a w :=
 wp_region_any hm (AnyUpto.any _ _ _ _ (h hS))
end
end Go.Proofs.YtgkofgifoiinkaaGreat
namespace Go.Proofs.YtgkofgifoiinkaaGreat
open Go.RowKit
theorem way_lt {es:List En} (h:es≠[]) (key:Bytes):way es key < es.length:=by
 unfold way
 have h1:=fnd_le es key
 have h2:=List.length_pos_iff.2 h
 split
 ·rename_i hi
  unfold fndIs at hi
  rcases he:es[fnd es key]? with _ | e
  ·rw [he] at hi
   cases hi
  ·exact (List.getElem?_eq_some_iff.1 he).1
 ·omega
theorem EsOk.few {N l:Nat} {es:List En} (h:EsOk N l es):es.length≤503:=by
 have:=length_le_nsize l es
 have:=h.2.1
 omega
theorem kid_facts {B:Nat→Bytes} {N l:Nat} {kids:List Sb} {toZ:Bytes} (hs:∀ k∈kids,Sub B N l k) (hr:RiseP (kids.flatMap Sb.prs)) (hu:Under (kids.flatMap Sb.prs) toZ) {i:Nat} {k:Sb} (hk:kids[i]? = some k) :
  ∃ ces cpg,NdOk N l ces∧B k.page=sealL 3 (bodyL l ces)∧Nb B N l ces k.prs cpg∧k.pgs=k.page::cpg∧k.page < N∧(kids.map kidE)[i]? = some (kidE k)∧ces.head?.map En.key=some (kidE k).key ∧
   (∀ c,ces.getLast? = some c→aheadB c.key (endK (kids.map kidE) toZ i)=true)∧RiseP k.prs∧Under k.prs (endK (kids.map kidE) toZ i):=by
 obtain ⟨ces,cpg,g1,g2,g3,g4,g5,g6⟩:=hs k (List.mem_of_getElem? hk)
 have hu2:=under_kid hs hr hu hk
 refine ⟨ces,cpg,g1,g2,g3,g4,g6,by simp [hk],g5,fun c hc=>?_,rise_kid hr (List.mem_of_getElem? hk),hu2⟩
 obtain ⟨v,hv⟩:=g3.keys (List.mem_of_getLast? hc)
 exact hu2.ahead hv
end Go.Proofs.YtgkofgifoiinkaaGreat
namespace Go.Proofs.YtgkofgifoiinkaaGreat
open Go.RowKit
def lookP (l:List Pr) (key:Bytes):Option Bytes:=(l.find? fun p=>p.1 == key).map Prod.snd
def putP:List Pr→Bytes→Bytes→List Pr
 | [],k,v=>[(k,v)]
 | p::r,k,v=>if cmp p.1 k < 0 then p::putP r k v else if p.1=k then (k,v)::r else (k,v)::p::r
def cutP (l:List Pr) (key:Bytes):List Pr:=l.filter fun p=>p.1 != key
theorem cmp_ne {a b:Bytes} (h:cmp a b < 0):a≠b:=fun e=>by
 subst e
 rw [cmp_refl] at h
 omega
theorem lookP_none {a:List Pr} {key:Bytes} (h:∀ p∈a,p.1≠key):lookP a key=none:=by
 unfold lookP
 rw [List.find?_eq_none.2 (fun p hp=>by simpa using h p hp)]
 rfl
theorem putP_ahead {a x:List Pr} {k v:Bytes} (ha:∀ p∈a,cmp p.1 k < 0):putP (a++x) k v=a++putP x k v:=by
 induction a with
 | nil=>rfl
 | cons p r ih =>
  rw [List.cons_append]
  show (if cmp p.1 k < 0 then p::putP (r++x) k v else if p.1=k then (k,v)::(r++x) else (k,v)::p::(r++x))=_
  rw [if_pos (ha p (by simp)),ih fun q hq=>ha q (by simp [hq])]
  rfl
theorem mem_putP {l:List Pr} {k v:Bytes} {p:Pr} (h:p∈putP l k v):p=(k,v)∨p∈l:=by
 induction l with
 | nil=>exact .inl (by simpa [putP] using h)
 | cons q r ih =>
  unfold putP at h
  split at h
  ·rcases List.mem_cons.1 h with rfl | h
   ·exact .inr (by simp)
   ·rcases ih h with h | h
    ·exact .inl h
    ·exact .inr (by simp [h])
  ·split at h
   ·rcases List.mem_cons.1 h with rfl | h
    ·exact .inl rfl
    ·exact .inr (by simp [h])
   ·rcases List.mem_cons.1 h with rfl | h
    ·exact .inl rfl
    ·exact .inr h
theorem rise_putP {l:List Pr} {k v:Bytes} (h:RiseP l):RiseP (putP l k v):=by
 induction l with
 | nil=>exact List.pairwise_singleton _ _
 | cons p r ih =>
  obtain ⟨h1,h2⟩:=List.pairwise_cons.1 h
  unfold putP
  split
  ·rename_i hp
   refine List.pairwise_cons.2 ⟨fun q hq=>?_,ih h2⟩
   rcases mem_putP hq with rfl | hq
   ·exact hp
   ·exact h1 q hq
  ·split
   ·rename_i hk
    refine List.pairwise_cons.2 ⟨fun q hq=>?_,h2⟩
    have:=h1 q hq
    rw [hk] at this
    exact this
   ·rename_i hp hk
    have hkp:cmp k p.1 < 0:=by
     have h3:=cmp_turn k p.1
     have h4:cmp p.1 k≠0:=fun e=>hk ((cmp_eq_zero _ _).1 e)
     omega
    refine List.pairwise_cons.2 ⟨fun q hq=>?_,h⟩
    rcases List.mem_cons.1 hq with rfl | hq
    ·exact hkp
    ·exact cmp_ltt hkp (h1 q hq)
theorem rise_cutP {l:List Pr} {k:Bytes} (h:RiseP l):RiseP (cutP l k):=h.filter _
theorem cutP_none {l:List Pr} {k:Bytes} (h:lookP l k=none):cutP l k=l:=by
 unfold lookP at h
 have h2:=List.find?_eq_none.1 (Option.map_eq_none_iff.1 h)
 exact List.filter_eq_self.2 fun p hp=>by simpa using h2 p hp
theorem pr_turn {a b:Bytes} (h:¬ cmp a b < 0) (hne:a≠b):cmp b a < 0:=by
 have h3:=cmp_turn a b
 have h4:cmp a b≠0:=fun e=>hne ((cmp_eq_zero _ _).1 e)
 omega
section
variable {B:Nat→Bytes} {N l:Nat} {kids:List Sb} {key:Bytes}
end
end Go.Proofs.YtgkofgifoiinkaaGreat
