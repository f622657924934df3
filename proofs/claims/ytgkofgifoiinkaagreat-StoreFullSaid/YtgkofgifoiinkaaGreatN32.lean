/- A number out of its eight bytes: the walk of number; condition: they stand there. -/
import Derived.Test.YtgkofgifoiinkaaGreatN31
import Derived.Test.YtgkofgifoiinkaaGreatN02
import Derived.Test.YtgkofgifoiinkaaGreatN29
namespace Go.Proofs.YtgkofgifoiinkaaGreat
open Go.RowKit Go.Maps
theorem u8_val {n:Nat} (h:n < 256):Value.int .u8 (n:Int)=bv (UInt8.ofNat n):=by
 unfold bv
 rw [UInt8.toNat_ofNat']
 congr 1
 omega
theorem Ow.apart {w:World} {base:Nat} {e:TypeId} {v:Value} {l:Bytes} (h:Ow w base e v l) {q:Nat} {cs:List Value} {t:TypeId} (hc:Cel w q cs t) (ht:t≠e):v.ownBlock≠some q:=by
 intro hq
 rcases h.2 with ⟨rfl,_⟩ | ⟨g,cap,cur,rfl,_,hg,_⟩
 ·cases hq
 ·cases hq
  rw [show w.heap[g]? = _ from hc] at hg
  simp only [Option.some.injEq,Obj.cells.injEq] at hg
  exact ht hg.2.1
theorem Cel.grown {w w':World} {q:Nat} {cs:List Value} {t:TypeId} {row:Option Nat} (hc:Cel w q cs t) (hg:w.grownBy w' row) (hn:row≠some q):Cel w' q cs t:=hc.kept (hg.block q hc.lt fun e=>hn e.symm)
section
variable {w:World} {S:Nat→Prop} {lv:Value} {l:List Wr}
set_option maxRecDepth 100000 in
set_option maxHeartbeats 4000000 in
theorem record_any (h:Rd kdWr w S lv l) (hl:∀ x∈l,WrOk x) (hn:l.length≤100000):Calls Tryz.prog 46 #[lv] w (Gives w (recL l)):=by
 obtain ⟨la,lc,rfl,_⟩:=h.shape
 obtain ⟨n,hnn⟩:∃ n,n=l.length:=⟨_,rfl⟩
 rw [← hnn] at h hn ⊢
 have HH:=Lib.hid (anZ h (anZ hnn hl))
 clear h hnn hl
 go_enter Tryz.func46,Tryz.ntmps46
 go_wp2
 go_loopw [2,7] (fun bv i wr=>∃ r:Nat,r≤n∧i = .int .i64 (r:Int)∧Ow wr w.heap.size 5 bv (recL (l.take r))∧Below w.heap.size w wr) (fun _ i _=>n-(intOf i).toNat)
 case atStart=>exact ⟨0,Nat.zero_le _,rfl,World.ownsRow_nil _ _ _ _,Below.refl _ _⟩
 case round =>
  obtain ⟨r,hr,rfl,ho,hb⟩:=hrel
  obtain ⟨h,hnn,hl⟩:=HH.out
  by_cases hlt:r < n
  ·obtain ⟨x,hx⟩:∃ x,l[r]? = some x:=⟨_,List.getElem?_eq_getElem (by omega)⟩
   obtain ⟨gg,o,cap,ka,kc,va,vc,e0,hg,k0',k1',k2',bk,bvv⟩:=h.wr hx
   have k0:=(hb.cell (p:=⟨gg,o+r*3,none⟩) hg).trans k0'
   have k1:=(hb.cell (p:=⟨gg,o+r*3+1,none⟩) hg).trans k1'
   have k2:=(hb.cell (p:=⟨gg,o+r*3+2,none⟩) hg).trans k2'
   clear k0' k1' k2'
   rw [← hnn] at e0
   simp only [Value.slice.injEq] at e0
   obtain ⟨rfl, -,rfl⟩:=e0
   have hil:(r:Int) < (n:Int):=by omega
   have hr0:(0:Int)≤(r:Int):=by omega
   have hok:=hl x (List.mem_of_getElem? hx)
   have hrl:=recL_length (l:=l.take r) fun y hy=>hl y (List.mem_of_mem_take hy)
   rw [List.length_take_of_le (by omega)] at hrl
   have hsn:=recL_snoc hx
   obtain ⟨kn,hkn⟩:∃ kn,kn=x.key.length:=⟨_,rfl⟩
   obtain ⟨vn,hvn⟩:∃ vn,vn=x.val.length:=⟨_,rfl⟩
   obtain ⟨gn,hgn⟩:∃ gn,gn=x.gone:=⟨_,rfl⟩
   rw [← hkn] at k0 bk
   rw [← hvn] at k1 bvv
   rw [← hgn] at k2
   have hk32:kn≤32:=by rw [hkn]; exact hok.1.1.2
   have hv128:vn≤128:=by rw [hvn]; exact hok.1.2
   obtain ⟨wb,hwb⟩:∃ wb,wb=wr.alloc (.cells #[.slice ka kn kc, .slice va vn vc, .bool gn] 61):=⟨_,rfl⟩
   have hbx:Below wr.heap.size wr wb:=by rw [hwb]; exact (Below.refl _ _).alloc (Nat.le_refl _) _
   have CB:Cel wb wr.heap.size [.slice ka kn kc, .slice va vn vc, .bool gn] 61:=by rw [hwb]; exact Cel.new wr _ _
   have henc:encW x=UInt8.ofNat kn::(x.key++if gn=true then [129] else UInt8.ofNat vn::x.val):=by unfold encW; rw [hkn,hvn,hgn]
   have HB:=Lib.hid (anZ (anZ ho hb) (anZ hbx (anZ CB (anZ bk (anZ bvv (anZ hrl (anZ hsn (anZ henc (anZ hkn hvn)))))))))
   have HW:=Lib.hid hwb
   clear ho hb hbx CB bk bvv hrl hsn henc hkn hvn hgn hok hx hwb hnn h hl
   go_upto_region 4 with fail
   rw [← HW.out]
   clear HW k0 k1 k2
   have k0:wb.cell? ⟨wr.heap.size,0,none⟩=some (.slice ka kn kc):=HB.out.2.2.1.cell 0
   have hz:=HB.out.1.2.size
   have hz2:=HB.out.2.1.size
   have hb1:Below wb.heap.size wb (wb.alloc (.cells #[.int .u8 (kn:Int)] 5)):=(Below.refl _ _).alloc (Nat.le_refl _) _
   have C1:=HB.out.2.2.1.below hb1 HB.out.2.2.1.lt
   have bb1:=Bs.new1 wb 5 (.int .u8 (kn:Int)) (UInt8.ofNat kn) (u8_val (by omega))
   have oo1:=(HB.out.1.1.below HB.out.2.1).below hb1
   have hs1:(recL (l.take r)).length+[UInt8.ofNat kn].length≤140737488355328:=by have:=HB.out.2.2.2.2.2.1; simp; omega
   have hbase1:w.heap.size≤(wb.alloc (.cells #[.int .u8 (kn:Int)] 5)).heap.size:=by simp; omega
   have hb01:Below wr.heap.size wr (wb.alloc (.cells #[.int .u8 (kn:Int)] 5)):=HB.out.2.1.trans (hb1.mono HB.out.2.1.size)
   have hwrap:(kn:Int) % 256=(kn:Int):=by omega
   go_upto_region 5 with (at_builtin; refine wpList_append_bs bt rfl (.tmp 11) (.tmp 16) rfl w.heap.size rfl rfl oo1 bb1 hs1 hbase1 ?_; intro v2 w2 o2 g2; have C2:=C1.grown g2 (oo1.apart C1 (by decide)); have k2:w2.cell? ⟨wr.heap.size,0,none⟩=some (.slice ka kn kc):=C2.cell 0)
   have b2:=below_own (HB.out.1.2.trans (hb01.mono HB.out.1.2.size)) oo1 g2
   have hkb:=HB.out.2.2.2.1.1.below b2
   have hs2:(recL (l.take r)++[UInt8.ofNat kn]).length+x.key.length≤140737488355328:=by have:=HB.out.2.2.2.2.2.1; have:=HB.out.2.2.2.2.2.2.2.2.1; simp; omega
   have hb2s:=b2.size
   have HZ:=Lib.hid (anZ hwrap hk32)
   clear oo1 bb1 hs1 hbase1 C1 hb1 hb01 g2 k0 hwrap
   go_upto_region 6 with (at_builtin; refine wpList_append_bs bt rfl (.tmp 18) (.tmp 20) rfl w.heap.size rfl rfl o2 hkb hs2 hb2s ?_; intro v3 w3 o3 g3; have C3:=C2.grown g3 (o2.apart C2 (by decide)); have k3:w3.cell? ⟨wr.heap.size,2,none⟩=some (.bool gn):=C3.cell 2)
   have b3:=below_own b2 o2 g3
   have hb3s:=b3.size
   have HG:=Lib.hid HB.out.2.2.2.2.2.2.2.1
   clear o2 hkb hs2 hb2s C2 g3 k2 b2
   cases gn
   ·have hb4:Below w3.heap.size w3 (w3.alloc (.cells #[.int .u8 (vn:Int)] 5)):=(Below.refl _ _).alloc (Nat.le_refl _) _
    have C4:=C3.below hb4 C3.lt
    have bb4:=Bs.new1 w3 5 (.int .u8 (vn:Int)) (UInt8.ofNat vn) (u8_val (by omega))
    have oo4:=o3.below hb4
    have hs4:(recL (l.take r)++[UInt8.ofNat kn]++x.key).length+[UInt8.ofNat vn].length≤140737488355328:=by have:=HB.out.2.2.2.2.2.1; have:=HB.out.2.2.2.2.2.2.2.2.1; simp; omega
    have hbase4:w.heap.size≤(w3.alloc (.cells #[.int .u8 (vn:Int)] 5)).heap.size:=by simp; omega
    have hwrap4:(vn:Int) % 256=(vn:Int):=by omega
    have k4:w3.cell? ⟨wr.heap.size,1,none⟩=some (.slice va vn vc):=C3.cell 1
    have k4b:=(hb4.cell (p:=⟨wr.heap.size,1,none⟩) C3.lt).trans k4
    go_upto_region 9 with (at_builtin; refine wpList_append_bs bt rfl (.tmp 27) (.tmp 32) rfl w.heap.size rfl rfl oo4 bb4 hs4 hbase4 ?_; intro v5 w5 o5 g5; have C5:=C4.grown g5 (oo4.apart C4 (by decide)); have k5:w5.cell? ⟨wr.heap.size,1,none⟩=some (.slice va vn vc):=C5.cell 1)
    have b5:=below_own (b3.trans (hb4.mono b3.size)) oo4 g5
    have hvb:=HB.out.2.2.2.2.1.1.below b5
    have hs5:(recL (l.take r)++[UInt8.ofNat kn]++x.key++[UInt8.ofNat vn]).length+x.val.length≤140737488355328:=by have:=HB.out.2.2.2.2.2.1; have:=HB.out.2.2.2.2.2.2.2.2; simp; omega
    have hb5s:=b5.size
    clear oo4 bb4 hs4 hbase4 C4 hb4 g5 k3 k4 k4b hwrap4 C3 o3 b3
    go_wp2_with (at_builtin; refine wpList_append_bs bt rfl (.tmp 34) (.tmp 36) rfl w.heap.size rfl rfl o5 hvb hs5 hb5s ?_; intro v6 w6 o6 g6)
    have b6:=below_own b5 o5 g6
    have e6:recL (l.take r)++[UInt8.ofNat kn]++x.key++[UInt8.ofNat vn]++x.val=recL (l.take (r+1)):=by
     rw [HB.out.2.2.2.2.2.2.1,HG.out]
     simp
    rw [e6] at o6
    have HF:=Lib.hid (anZ o6 b6)
    clear o5 hvb hs5 hb5s C5 g6 k5 o6 b6 e6 b5
    go_roundw
    case rel=>exact ⟨r+1,by omega,by go_num,HF.out.1,HF.out.2⟩
    case measure=>simp [intOf]; omega
   ·have hb4:Below w3.heap.size w3 (w3.alloc (.cells #[.int .u8 129] 5)):=(Below.refl _ _).alloc (Nat.le_refl _) _
    have bb4:=Bs.new1 w3 5 (.int .u8 129) 129 rfl
    have oo4:=o3.below hb4
    have hs4:(recL (l.take r)++[UInt8.ofNat kn]++x.key).length+[(129:UInt8)].length≤140737488355328:=by have:=HB.out.2.2.2.2.2.1; have:=HB.out.2.2.2.2.2.2.2.2.1; simp; omega
    have hbase4:w.heap.size≤(w3.alloc (.cells #[.int .u8 129] 5)).heap.size:=by simp; omega
    go_wp2_with (at_builtin; refine wpList_append_bs bt rfl (.tmp 24) (.tmp 25) rfl w.heap.size rfl rfl oo4 bb4 hs4 hbase4 ?_; intro v5 w5 o5 g5)
    have b5:=below_own (b3.trans (hb4.mono b3.size)) oo4 g5
    have e6:recL (l.take r)++[UInt8.ofNat kn]++x.key++[129]=recL (l.take (r+1)):=by
     rw [HB.out.2.2.2.2.2.2.1,HG.out]
     simp
    rw [e6] at o5
    have HF:=Lib.hid (anZ o5 b5)
    clear oo4 bb4 hs4 hbase4 hb4 g5 k3 C3 o3 b3 o5 b5 e6
    go_roundw
    case rel=>exact ⟨r+1,by omega,by go_num,HF.out.1,HF.out.2⟩
    case measure=>simp [intOf]; omega
  ·obtain rfl:r=n:=by omega
   rw [List.take_of_length_le (by omega)] at ho
   have hil:¬ (r:Int) < (r:Int):=by omega
   have HB:=Lib.hid (anZ ho hb)
   clear h hnn hl ho hb
   go_wp2
   go_ret
   exact ⟨_,rfl,HB.out.1,HB.out.2⟩
end
end Go.Proofs.YtgkofgifoiinkaaGreat
namespace Go.Proofs.YtgkofgifoiinkaaGreat
open Go.RowKit Go.Maps Go.Sort
theorem str_info:(Tryz.prog.info? 9).map (fun i=>(i.zero,i.size,i.bytes))=some (some (.string ⟨#[]⟩),1,16):=by kernel_rfl
theorem scell_of {w:World} {g:Nat} {C:Array Value} {t:TypeId} {fr:Nat × Nat} (hh:w.heap[g]? = some (.cells C t fr)) (i:Nat):w.cell? ⟨g,i,none⟩=C[i]?:=by simp [World.cell?,hh]
theorem sbs_of_string (w:World) (l:Bytes) (C:Nat) (t:TypeId) (fr:Nat × Nat) (h1:l.length≤C) (h2:C≤maxLen):Bs (w.alloc (.cells (bytesRow ⟨l.toArray⟩ C) t fr)) (.slice (some ⟨w.heap.size,0,none⟩) l.length C) l:=by
 refine ⟨some ⟨w.heap.size,0,none⟩,C,rfl,h1,h2,(fun h=>by cases h),fun ad had i u hu=>?_⟩
 cases had
 rw [Addr.add_lit,Nat.zero_add]
 have hi:i < l.length:=by
  have:=(List.getElem?_eq_some_iff.1 hu).1
  simpa [bvs] using this
 have hb:=bytesRow_at ⟨l.toArray⟩ C i (by simpa using hi)
 have:(w.alloc (.cells (bytesRow ⟨l.toArray⟩ C) t fr)).cell? ⟨w.heap.size,i,none⟩=(bytesRow ⟨l.toArray⟩ C)[i]?:=by
  have hh:(w.alloc (.cells (bytesRow ⟨l.toArray⟩ C) t fr)).heap[w.heap.size]? = some (.cells (bytesRow ⟨l.toArray⟩ C) t fr):=by
   show (w.heap.push _)[w.heap.size]? = _
   simp
  exact scell_of hh i
 rw [this,hb]
 rw [bvs_cell hi] at hu
 rw [← hu]
 simp [bv]
theorem str_bytes (w:World) (l:Bytes) (hl:l.length≤maxLen):∃ c w',(convert 9 24 (strV l)).run Tryz.prog w = .ok (.slice (some ⟨w.heap.size,0,none⟩) l.length c) w'∧Bs w' (.slice (some ⟨w.heap.size,0,none⟩) l.length c) l∧Below w.heap.size w w':=by
 have hc:=run_bytes_of_string (P:=Tryz.prog) w 9 24 5 ⟨l.toArray⟩ Tryz.underlying9 Tryz.underlying24 Tryz.underlying5
 have hb3:=(Below.refl w.heap.size w).alloc (Nat.le_refl _) (.cells (bytesRow ⟨l.toArray⟩ (grownCap w l.length 0 5)) 5 ((bytesRow ⟨l.toArray⟩ (grownCap w l.length 0 5)).size,(bytesRow ⟨l.toArray⟩ (grownCap w l.length 0 5)).size+1))
 exact ⟨_,_,hc,(sbs_of_string w l _ _ _ (grownCap_ge w l.length 0 _) (grownCap_le_maxLen w l.length 0 _ hl)).kept fun _ _ hu=>hu,⟨hb3.os,hb3.tape,hb3.output,hb3.size,hb3.block⟩⟩
theorem ssort_any {w:World} {base:Nat} {v:Value} {ss:List Bytes} (h:w.ownsRow base 9 1 v ss.length (ss.map encStr)) (hn:ss.length≤1000000) :
  Calls Tryz.prog 94 #[v] w fun e w'=>e = .returned (.tuple #[])∧w'.ownsRow base 9 1 v ss.length ((ss.mergeSort (fun x y=>decide (x≤y))).map encStr)∧w.grownBy w' v.ownBlock:=by
 rcases h.2 with ⟨rfl,h0⟩ | ⟨g,cap,cur,rfl,hbase,hb,h1,h2,h3,h4⟩
 ·have hs:ss=[]:=List.eq_nil_of_length_eq_zero h0
  subst hs
  refine (AnyM.slices_Sort_string_none Tryz.sortSA none 0 w).mono ?_
  rintro e w' ⟨rfl,rfl⟩
  exact ⟨rfl,by simpa using h,World.grownBy.refl _ _⟩
 ·have hH:Go.Sort.Holds encStr w g 0 ss.toArray:=holds_of_block hb (by simpa using h4)
  have hgl:g < w.heap.size:=(Array.getElem?_eq_some_iff.1 hb).1
  refine (AnyM.slices_Sort_string Tryz.sortSA g 0 cap ss w hH hgl (by omega)).mono ?_
  rintro e w' ⟨rfl,nn,os,rfl⟩
  exact ⟨rfl,ownsRow_sorted (by simp) hbase hb h1 h2 h3,grownBy_sorted _⟩
theorem rise_look {P:List Pr} (hr:RiseP P) {p:Pr} (hp:p∈P):lookP P p.1=some p.2:=by
 induction P with
 | nil=>cases hp
 | cons a P ih =>
  rw [lookP_cons]
  rcases List.mem_cons.1 hp with rfl | hp
  ·rw [if_pos rfl]
  ·rw [if_neg (cmp_ne ((List.pairwise_cons.1 hr).1 p hp)),ih (List.pairwise_cons.1 hr).2 hp]
set_option maxRecDepth 100000 in
set_option maxHeartbeats 4000000 in
theorem sorted_any {w:World} {sb mb:Nat} {P:List Pr} {f t:Bytes} {S:Nat→Prop} (c5:w.cell? ⟨sb,5,none⟩=some (.map (some mb))) (hm:SMap w mb P) (hp:∀ p∈P,PrOk p) (hP:P.length≤1000000) (hS:∀ q,S q→q < w.heap.size) :
  Calls Tryz.prog 65 #[ptr sb,strV f,strV t] w fun e w'=>∃ v,e = .returned v∧Rd kdPr w' S v (inSpan f t P)∧Below w.heap.size w w':=by
 obtain ⟨i0,hi,hz0,hz1,hz2⟩:=info_parts str_info
 obtain ⟨Dm,hD⟩:=hm
 have hkeys:=(hD.is.keys hD.rise hD.own).length_eq
 have hsz:Maps.size Dm=P.length:=by rw [size_keys, ← hkeys,List.length_map]
 have hml:=hD.own.lt
 have hrise:=hD.rise
 have HH:=Lib.hid (anZ hD (anZ hp (anZ hP (anZ hS (anZ hsz c5)))))
 have hown:=hD.own
 obtain ⟨n,hn⟩:∃ n,n=P.length:=⟨_,rfl⟩
 rw [← hn] at hown
 have HN:=Lib.hid hn
 clear hn
 clear hD hp hkeys hrise hS hsz
 go_enter Tryz.func65,Tryz.ntmps65
 go_wp2_with (first | (at_range; refine wpList_range_own _ rfl _ 88 rfl 9 9 str_law Tryz.underlying88 _ mb n _ rfl hown ?_; intro w0 hrg0 hg0 hs0) | go_in)
 go_frame
 clear hs0 c5
 go_loopw [7] (fun v wr=>∃ (left:Lit→Bool) (cnt:Nat) (ss:List Bytes),wr.ranges Tryz.prog 9 strR mb w.heap.size n Dm left cnt∧ss.length+cnt≤n∧wr.ownsRow w.heap.size 9 1 v ss.length (ss.map encStr)∧CollF Dm left (fun k=>hasB k f t) ss∧Below w.heap.size w wr) (fun _ wr=>wr.rangeLeft mb w.heap.size)
 case atStart =>
  refine ⟨_,_,[],hrg0,by rw [HH.out.2.2.2.2.1,HN.out]; simp,World.ownsRow_nil _ _ _ _,CollF.start _ _,(Below.refl _ _).grown hg0 (Nat.le_refl _) (fun j hj=>by cases hj)⟩
 case round =>
  obtain ⟨left,cnt,ss,hrg,hcs,hrow,hC,hnx⟩:=hrel
  go_wp2_with (first | (at_next; refine wpList_next_ranges _ rfl _ rfl 9 str_law strR encStr strV (fun key kl hk=>by obtain ⟨x,hx,_⟩:=Maps.keyOf_str Tryz.underlying9 hk; exact ⟨x,hx⟩) (fun v y hv=>by obtain ⟨c,rfl,_⟩:=strR_inv hv; exact ⟨c,rfl⟩) mb w.heap.size n _ _ _ rfl hrg ?_ ?_) | go_in)
  ·intro hc0 hl0
   obtain ⟨hD,hp,hP,hS,hsz,c5⟩:=HH.out
   have hperm:=hC.perm hD.is hD.rise hl0
   have hks:=keys_sorted (hD.rise.filter (fun p=>hasB p.1 f t)) hperm
   have hQ:(P.filter fun p=>hasB p.1 f t)=inSpan f t P:=rfl
   rw [hQ] at hks hperm
   obtain ⟨Q,hQ⟩:∃ Q,Q=inSpan f t P:=⟨_,rfl⟩
   rw [← hQ] at hks hperm
   have hQm:∀ p∈Q,p∈P:=fun p h=>by rw [hQ] at h; exact (List.mem_filter.1 h).1
   have hQl:Q.length≤P.length:=by rw [hQ]; exact List.length_filter_le _ _
   have hsl:ss.length=Q.length:=by rw [hperm.length_eq,List.length_map]
   have hso:=ssort_any hrow (by omega)
   rw [hks] at hso
   obtain ⟨va,vc,rfl,hcap, -⟩:=(Rw.of_own hrow).shape
   rw [hsl] at hso hcap hrow ⊢
   have hb0:∀ j,(Value.slice va Q.length vc).ownBlock=some j→w.heap.size≤j:=fun j hj=>(hrow.lt j hj).1
   obtain ⟨m,hm⟩:∃ m,m=Q.length:=⟨_,rfl⟩
   rw [← hm] at hso hb0 ⊢
   have hm6:m≤1000000:=by omega
   have HB:=Lib.hid (anZ hnx (anZ hb0 (anZ hQ (anZ hQm (anZ hm hm6)))))
   clear hnx hb0 hQ hQm hm hm6 hD hp hP hS hsz c5 hperm hks hQl hsl hcap hrow hC hrg hcs hl0 hc0
   go_wp2_with fail
   refine hso.mono ?_
   rintro e w5 ⟨rfl,hrow5,hg5⟩
   clear hso
   have HW:=Lib.hid (anZ (HB.out.1.grown hg5 HB.out.1.size HB.out.2.1) (Rw.of_own hrow5))
   clear hg5 hrow5
   go_wp2_with fail
   go_loopw [6,40] (fun ov i wr=>∃ (r:Nat) (Sx:Nat→Prop),r≤m∧i = .int .i64 (r:Int)∧OutK kdPr 68 w5 S wr ov (Q.take r) Sx) (fun _ i _=>m-(intOf i).toNat)
   case atStart =>
    exact ⟨0,S,Nat.zero_le _,rfl,OutK.start _ _ fun q hq=>Nat.lt_of_lt_of_le (HH.out.2.2.2.1 q hq) HW.out.1.size⟩
   case round =>
    obtain ⟨r,Sx,hr,rfl,hO⟩:=hrel
    obtain ⟨hnx,hb0,hQ,hQm,hm,hm6⟩:=HB.out
    obtain ⟨hD,hp,hP,hS,hsz,c5⟩:=HH.out
    obtain ⟨hw5,hrw⟩:=HW.out
    by_cases hlt:r < m
    ·obtain ⟨⟨k1,k2⟩,hk⟩:∃ k,Q[r]? = some k:=⟨_,List.getElem?_eq_getElem (by omega)⟩
     have hkP:=hQm _ (List.mem_of_getElem? hk)
     have hok:=hp _ hkP
     have hlk:=rise_look hD.rise hkP
     have hwr:Below w.heap.size w wr:=hw5.trans (hO.bel.mono hw5.size)
     obtain ⟨bb,bo,bc,ev, -, -, -,hcs⟩:=(hrw.only (Only.of_below hO.bel (fun _=>False)) (fun _ _ _ h=>h)).open (by omega) (by decide)
     simp only [Value.slice.injEq] at ev
     obtain ⟨rfl, -,rfl⟩:=ev
     have hc1:wr.cell? ⟨bb,bo+r,none⟩=some (strV k1):=hcs r _ (by rw [List.getElem?_map,List.getElem?_map,hk]; rfl)
     obtain ⟨kc,w1,hr1,hs1,hb1⟩:=str_bytes wr k1 (by have:=hok.1.2; simp only at this; unfold maxLen; omega)
     have hmr:SMap w1 mb P:=((show SMap w mb P from ⟨_,hD⟩).below hwr).below hb1
     have hc5:w1.cell? ⟨sb,5,none⟩=some (.map (some mb)):=by
      have h1:=(hwr.cell (p:=⟨sb,5,none⟩) (World.block_lt_of_cell? w _ c5)).trans c5
      exact (hb1.cell (p:=⟨sb,5,none⟩) (World.block_lt_of_cell? wr _ h1)).trans h1
     have hlook:=hmr.look1 (k:=k1) (by have:=hok.1.2; simp only at this; unfold maxLen; omega)
     rw [hlk,Option.getD_some] at hlook
     obtain ⟨vc,w2,hr2,hs2,hb2⟩:=str_bytes w1 k2 (by have:=hok.2; simp only at this; unfold maxLen; omega)
     have hb12:Below wr.heap.size wr w2:=hb1.trans (hb2.mono hb1.size)
     have hOb:=hO.below hb12
     obtain ⟨kn,hkn⟩:∃ kn,kn=k1.length:=⟨_,rfl⟩
     obtain ⟨vn,hvn⟩:∃ vn,vn=k2.length:=⟨_,rfl⟩
     rw [← hkn] at hr1 hs1
     rw [← hvn] at hr2 hs2
     have hk1:Bsf w2 Sx (.slice (some ⟨wr.heap.size,0,none⟩) kn kc) k1:=⟨hs1.below hb2,fun _ q hq hs=>by cases hq; exact absurd (hO.lt _ hs) (Nat.lt_irrefl _)⟩
     have hk2:Bsf w2 Sx (.slice (some ⟨w1.heap.size,0,none⟩) vn vc) k2:=⟨hs2,fun _ q hq hs=>by cases hq; have h8:w1.heap.size < wr.heap.size:=hO.lt _ hs; have:=hb1.size; omega⟩
     have hon:(Q.take r).length≤1000000000:=by rw [List.length_take]; omega
     obtain ⟨ua,uc,un,w6,Sy,hun,hrun,hO6⟩:=hOb.push par_ty ⟨⟨some ⟨wr.heap.size,0,none⟩,kn,kc⟩,⟨some ⟨w1.heap.size,0,none⟩,vn,vc⟩,(k1,k2)⟩ (cs:=(#[.slice (some ⟨wr.heap.size,0,none⟩) kn kc, .slice (some ⟨w1.heap.size,0,none⟩) vn vc]:Array Value)) rfl ⟨hk1,hk2⟩ hon
     have htk:Q.take r++[(k1,k2)]=Q.take (r+1):=by rw [List.take_add_one,hk]; rfl
     rw [show kdPr.con ⟨⟨some ⟨wr.heap.size,0,none⟩,kn,kc⟩,⟨some ⟨w1.heap.size,0,none⟩,vn,vc⟩,(k1,k2)⟩=(k1,k2) from rfl,htk] at hO6
     have hil:(r:Int) < (m:Int):=by omega
     have hr0:(0:Int)≤(r:Int):=by omega
     have hlt':r+1≤m:=hlt
     have H6:=Lib.hid (anZ hO6.1 (anZ hlt' hr))
     clear hO6 hrw hw5 hb0 hQ hQm hm hD hp hP hS hsz c5 hk hkP hok hlk hwr hcs hmr hs1 hs2 hb1 hb2 hb12 hOb hk1 hk2 hon htk hlt hr hO hnx hkn hvn hlt' hun
     go_wp2_with (at_builtin; refine klist_append_run rfl (.tmp 44) (.tmp 55) _ rfl rfl rfl hrun ?_)
     clear hrun hr1 hr2 hlook hc1 hc5
     go_roundw
     case rel =>
      have h7:=H6.out.2.1
      have h8:=HB.out.2.2.2.2.2
      exact ⟨r+1,Sy,H6.out.2.1,by go_num,H6.out.1⟩
     case measure =>
      have h7:=H6.out.2.1
      have h8:=HB.out.2.2.2.2.2
      simp [intOf]; omega
    ·obtain rfl:r=m:=by omega
     rw [hm,List.take_length,hQ] at hO
     have hend:=hO.done (fun q hq=>Nat.lt_of_lt_of_le (hS q hq) hw5.size)
     have hbe:Below w.heap.size w wr:=hw5.trans (hO.bel.mono hw5.size)
     have hil:¬ (r:Int) < (r:Int):=by omega
     have HE:=Lib.hid (anZ hend hbe)
     clear hend hbe hrw hw5 hb0 hQ hQm hm hm6 hD hp hP hS hsz c5 hO hnx hlt hr
     go_wp2_with fail
     go_ret
     exact ⟨_,rfl,HE.out.1,HE.out.2⟩
  ·intro x c kl yd yp w2 cnt2 hkey hlk hv hat hrg2 hlt hg2 hs2 hen
   obtain ⟨x',ex,rfl,_⟩:=Maps.keyOf_str Tryz.underlying9 hkey
   obtain rfl:x=x':=encStr_inj ex
   have hrow2:=hrow.kept hg2 (Or.inr (row_ne_iter hrow hrg).symm)
   clear hs2 ex
   have hb:=shasB_eq x f t
   have hnx2:=hnx.grown hg2 hnx.size (fun j hj=>by cases hj; exact Nat.le_refl _)
   by_cases h1:cmp x f < 0
   ·have hl1:Op.bytesLess x f=true:=by rw [sbytesLess_cmp]; exact decide_eq_true h1
    have hno:hasB x f t=false:=by rw [hb,decide_eq_true h1]; rfl
    have hC2:=hC.no hlk hno
    have HF:=Lib.hid (anZ hrg2 (anZ hC2 (anZ hrow2 (anZ hnx2 (anZ hlt hrg)))))
    clear hb h1 hno hC2 hrow2 hnx2 hrg2 hlt hC hrow hnx hrg hg2 hlk hat hv hkey
    go_wp2
    go_roundw
    case rel=>exact ⟨_,cnt2,ss,HF.out.1,by have:=HF.out.2.2.2.2.1; omega,HF.out.2.2.1,HF.out.2.1,HF.out.2.2.2.1⟩
    case measure=>rw [HF.out.1.left_eq,HF.out.2.2.2.2.2.left_eq]; exact HF.out.2.2.2.2.1
   ·have hl1:Op.bytesLess x f=false:=by rw [sbytesLess_cmp]; exact decide_eq_false h1
    rw [decide_eq_false h1] at hb
    simp only [Bool.not_false,Bool.true_and] at hb
    by_cases h2:t=[]
    ·have hyes:hasB x f t=true:=by rw [hb,h2]; rfl
     subst h2
     have h63:ss.length+1≤maxLen:=by have:=HN.out; have:=HH.out.2.2.1; unfold maxLen; omega
     have hby:(ss.length+1)*16≤140737488355328:=by have:=HN.out; have:=HH.out.2.2.1; omega
     have hbase:w.heap.size≤(w2.alloc (.cells #[encStr x] 9)).heap.size:=by have:=hnx2.size; simp; omega
     have hrow3:=hrow2.alloc (.cells #[encStr x] 9)
     have hC2:=hC.yes hlk hat hyes
     have hrA:=hrg2.alloc (.cells #[encStr x] 9)
     have hne1:=row_ne_low hrow2 hml
     have hne2:=row_ne_iter hrow2 hrg2
     have hnx3:=hnx2.alloc hnx2.size (.cells #[encStr x] 9)
     have hlt1:=fun j hj=>(hrow3.lt j hj).1
     have HF:=Lib.hid (anZ hrA (anZ hC2 (anZ hne1 (anZ hne2 (anZ hnx3 (anZ hlt (anZ hrg (anZ hlt1 (anZ hcs hbase)))))))))
     clear hb h1 hyes hC2 hrow2 hnx2 hrg2 hlt hC hrow hnx hrg hg2 hlk hat hv hkey hrA hne1 hne2 hnx3 hlt1 hcs
     go_wp2_with (at_builtin; refine wpList_append_own _ rfl (.tmp 32) (.tmp 34) 136 rfl w.heap.size 9 i0 (.string ⟨#[]⟩) 1 16 Tryz.underlying136 hi hz0 hz1 hz2 rfl (by decide) _ _ _ rfl hrow3 ⟨w2.heap.size,0,none⟩ 1 1 [encStr x] rfl rfl (cell_one_new _ _ _) (by simp [Value.oneCell',encStr]) h63 hby hbase ?_; intro v' w3 hown' hg3 hnil3; go_frame)
     have hrg3:=HF.out.1.kept hg3 HF.out.2.2.1 HF.out.2.2.2.1
     go_roundw
     case rel =>
      refine ⟨_,cnt2,ss++[x],hrg3,by have:=HF.out.2.2.2.2.2.1; have:=HF.out.2.2.2.2.2.2.2.2.1; simp; omega,by simpa using hown',HF.out.2.1,HF.out.2.2.2.2.1.grown hg3 HF.out.2.2.2.2.2.2.2.2.2 HF.out.2.2.2.2.2.2.2.1⟩
     case measure=>rw [hrg3.left_eq,HF.out.2.2.2.2.2.2.1.left_eq]; exact HF.out.2.2.2.2.2.1
    ·have hl0:t.length≠0:=fun e=>h2 (List.eq_nil_of_length_eq_zero e)
     have hem:List.isEmpty t=false:=by cases t <;> first | exact absurd rfl h2 | rfl
     rw [decide_eq_false hl0,Bool.false_or] at hb
     clear hl0 h2
     by_cases h3:cmp x t < 0
     ·have hl3:Op.bytesLess x t=true:=by rw [sbytesLess_cmp]; exact decide_eq_true h3
      have hyes:hasB x f t=true:=by rw [hb,decide_eq_true h3]
      clear h3
      have h63:ss.length+1≤maxLen:=by have:=HN.out; have:=HH.out.2.2.1; unfold maxLen; omega
      have hby:(ss.length+1)*16≤140737488355328:=by have:=HN.out; have:=HH.out.2.2.1; omega
      have hbase:w.heap.size≤(w2.alloc (.cells #[encStr x] 9)).heap.size:=by have:=hnx2.size; simp; omega
      have hrow3:=hrow2.alloc (.cells #[encStr x] 9)
      have hC2:=hC.yes hlk hat hyes
      have hrA:=hrg2.alloc (.cells #[encStr x] 9)
      have hne1:=row_ne_low hrow2 hml
      have hne2:=row_ne_iter hrow2 hrg2
      have hnx3:=hnx2.alloc hnx2.size (.cells #[encStr x] 9)
      have hlt1:=fun j hj=>(hrow3.lt j hj).1
      have HF:=Lib.hid (anZ hrA (anZ hC2 (anZ hne1 (anZ hne2 (anZ hnx3 (anZ hlt (anZ hrg (anZ hlt1 (anZ hcs hbase)))))))))
      clear hb h1 hyes hC2 hrow2 hnx2 hrg2 hlt hC hrow hnx hrg hg2 hlk hat hv hkey hrA hne1 hne2 hnx3 hlt1 hcs
      go_wp2_with (at_builtin; refine wpList_append_own _ rfl (.tmp 32) (.tmp 34) 136 rfl w.heap.size 9 i0 (.string ⟨#[]⟩) 1 16 Tryz.underlying136 hi hz0 hz1 hz2 rfl (by decide) _ _ _ rfl hrow3 ⟨w2.heap.size,0,none⟩ 1 1 [encStr x] rfl rfl (cell_one_new _ _ _) (by simp [Value.oneCell',encStr]) h63 hby hbase ?_; intro v' w3 hown' hg3 hnil3; go_frame)
      have hrg3:=HF.out.1.kept hg3 HF.out.2.2.1 HF.out.2.2.2.1
      go_roundw
      case rel =>
       refine ⟨_,cnt2,ss++[x],hrg3,by have:=HF.out.2.2.2.2.2.1; have:=HF.out.2.2.2.2.2.2.2.2.1; simp; omega,by simpa using hown',HF.out.2.1,HF.out.2.2.2.2.1.grown hg3 HF.out.2.2.2.2.2.2.2.2.2 HF.out.2.2.2.2.2.2.2.1⟩
      case measure=>rw [hrg3.left_eq,HF.out.2.2.2.2.2.2.1.left_eq]; exact HF.out.2.2.2.2.2.1
     ·have hl3:Op.bytesLess x t=false:=by rw [sbytesLess_cmp]; exact decide_eq_false h3
      have hno:hasB x f t=false:=by rw [hb,decide_eq_false h3]
      have hC2:=hC.no hlk hno
      have HF:=Lib.hid (anZ hrg2 (anZ hC2 (anZ hrow2 (anZ hnx2 (anZ hlt (anZ hrg hcs))))))
      clear hb h1 h3 hno hC2 hrow2 hnx2 hrg2 hlt hC hrow hnx hrg hg2 hlk hat hv hkey hcs
      go_wp2
      go_roundw
      case rel=>exact ⟨_,cnt2,ss,HF.out.1,by have:=HF.out.2.2.2.2.1; have:=HF.out.2.2.2.2.2.2; omega,HF.out.2.2.1,HF.out.2.1,HF.out.2.2.2.1⟩
      case measure=>rw [HF.out.1.left_eq,HF.out.2.2.2.2.2.1.left_eq]; exact HF.out.2.2.2.2.1
end Go.Proofs.YtgkofgifoiinkaaGreat
namespace Go.Proofs.YtgkofgifoiinkaaGreat
open Go.RowKit
def Rebuilds (w:World) (sb db pb tb mb:Nat) (jv:Value) (D:Dv) (ps:List Pg) (g:Nat) (dead:Bool) (P:List Pr) (F G:Nat→Prop) (e:Ending) (w':World):Prop :=
 ∃ (i:Nat) (BL:List Bytes) (root':Int) (pgs':List Nat) (F' G':Nat→Prop),e = .returned (.tuple #[.int .i64 (if (writesP 362 D ((placeT ps i).zip BL)).2=0 then root' else 0),err (writesP 362 D ((placeT ps i).zip BL)).2]) ∧
  (∀ j,j < i→leastFree (tdones j ps)≠none)∧BL.length=i∧(∀ b∈BL,b.length=512)∧i≤mostP P ∧
  Rt (ovr (blkOf D 362) ((placeT ps i).zip BL)) ps.length root' P pgs'∧pgs'.Perm (placeT ps i) ∧
  StB w' sb db pb tb mb jv (writesP 362 D ((placeT ps i).zip BL)).1 (endL (tdones i ps) ⟨placeT ps i,BL,[]⟩ (writesP 362 D ((placeT ps i).zip BL)).2) g dead P F' G'∧Step (BS sb mb F G) w w' (BS sb mb F' G')
section
variable {w:World} {sb db pb tb mb g n:Nat} {jv:Value} {D:Dv} {ps:List Pg} {dead:Bool} {P:List Pr} {F G:Nat→Prop}
theorem StB.build (h:StB w sb db pb tb mb jv D ps g dead P F G) (ho:D.on=true) (hu:Upto D n) (hn:n≤4000000000) (hok:okUp P) (hP:P.length≤100000) (hf:mostP P≤freeP ps) (hm:mostP P≤4000) {lv:Value} (hl:Rd kdPr w (fun q=>F q∨G q) lv P) :
  Calls Tryz.prog 105 #[ptr tb,lv] w (Rebuilds w sb db pb tb mb jv D ps g dead P F G):=by
 refine (tbuildf_any h.trs ho (by decide) hu hn hl hP (fun _=>hf) (fun _=>hm)).mono ?_
 rintro e w' (⟨h0, -⟩ | ⟨-,i,BL,root',pgs',S',rfl,hs,h1,h2,h3,h4,hT,h5,h6⟩)
 ·exact absurd hok h0
 ·have hup:=writesP_upto 362 ((placeT ps i).zip BL) hu
  have hel:(endL (tdones i ps) ⟨placeT ps i,BL,[]⟩ (writesP 362 D ((placeT ps i).zip BL)).2).length=ps.length:=by
   unfold endL
   split
   ·rw [dropsP_length,tdones_length]
   ·rw [dropsP_length,tdones_length]
  obtain ⟨F',G',h7,h8, -⟩:=h.tree' hT hs hup.2 hel
  exact ⟨i,BL,root',pgs',F',G',rfl,h1,h2,h3,h4,h5,h6,h7,h8⟩
set_option maxRecDepth 100000 in
set_option maxHeartbeats 4000000 in
theorem rebuild_any (h:StB w sb db pb tb mb jv D ps g dead P F G) (ho:D.on=true) (hu:Upto D n) (hn:n≤4000000000) (hok:okUp P) (hP:P.length≤100000) (hf:mostP P≤freeP (dropN ps ps.length)) (hm:mostP P≤4000) :
  Calls Tryz.prog 76 #[ptr sb] w (fun e w'=>∃ w1,StB w1 sb db pb tb mb jv D (dropN ps ps.length) g dead P F G∧Step (BS sb mb F G) w w1 (BS sb mb F G)∧Rebuilds w1 sb db pb tb mb jv D (dropN ps ps.length) g dead P F G e w'):=by
 obtain ⟨c0,c1,c2,c3,c4,c5,c6,c7⟩:=h.top.cells
 have SZ:=pgsize_any h.pgs
 have hfew:=h.pgs.few
 obtain ⟨N,hN⟩:∃ N,N=ps.length:=⟨_,rfl⟩
 rw [← hN] at hf SZ hfew ⊢
 have HH:=Lib.hid (anZ h (anZ ho (anZ hu (anZ hn (anZ hok (anZ hP (anZ hf (anZ hm hN))))))))
 clear h ho hu hn hok hP hf hm hN
 go_enter Tryz.func76,Tryz.ntmps76
 go_wp2_with fail
 refine SZ.mono ?_
 rintro e w0 ⟨rfl,rfl⟩
 clear SZ c0 c1 c2 c3 c4 c5 c6 c7
 go_wp2_with fail
 go_loopw [10] (fun i wr=>∃ r:Nat,r≤N∧i = .int .i64 (r:Int)∧StB wr sb db pb tb mb jv D (dropN ps r) g dead P F G∧Step (BS sb mb F G) w wr (BS sb mb F G)) (fun i _=>N-(intOf i).toNat)
 case atStart=>exact ⟨0,Nat.zero_le _,rfl,HH.out.1,Step.refl _ _⟩
 case round =>
  obtain ⟨r,hr,rfl,hB,hst⟩:=hrel
  by_cases hlt:r < N
  ·have DR:=drop_any hB.pgs (r:Int)
   obtain ⟨c0,c1,c2,c3,c4,c5,c6,c7⟩:=hB.top.cells
   have hil:(r:Int) < (N:Int):=by omega
   have hr0:(0:Int)≤(r:Int):=by omega
   have HB:=Lib.hid (anZ hB (anZ hst hlt))
   clear hB hst
   go_wp2_with fail
   refine DR.mono ?_
   rintro e w2 ⟨rfl,hp2,ho2⟩
   clear DR c0 c1 c2 c3 c4 c5 c6 c7
   rw [dropN_succ (by rw [← HH.out.2.2.2.2.2.2.2.2]; exact hlt)] at hp2
   obtain ⟨hB2,hst2⟩:=HB.out.1.pags hp2 ho2 (by rw [dropN_length,dropN_length])
   have HC:=Lib.hid (anZ hB2 (HB.out.2.1.trans hst2))
   clear hB2 hst2 hp2 ho2 hr hlt
   go_wp2
   go_roundw
   case rel=>exact ⟨r+1,HB.out.2.2,by go_num,HC.out⟩
   case measure =>
    have:=HB.out.2.2
    simp [intOf]; omega
  ·obtain rfl:r=N:=by omega
   have hil:¬ (r:Int) < (r:Int):=by omega
   have HB:=Lib.hid (anZ hB hst)
   clear hB hst hlt hr
   go_wp2_with fail
   have HX:=Lib.hid (fun (W:World) (hW:W.heap[sb]? = wr.heap[sb]?)=>((HB.out.1.top.kept hW).cells))
   refine region_till 99 (fun W=>W.heap[sb]? = wr.heap[sb]?) (by kernel_rfl) rfl (fun hS=>?_)
   refine tkZ (i:=0) 20 (ptr sb) rfl rfl (by kernel_rfl) (fun _ _ _ h=>h) (by rfl) (fun W hW=>?_) hS ?_
   ·obtain ⟨c0,c1,c2,c3,c4,c5,c6,c7⟩:=HX.out W hW
    clear hW
    go_simp
   simp only [Act.put,sAZ,sBZ,sCZ]
   refine tkZ (i:=1) 21 (ptr sb) rfl rfl (by kernel_rfl) (fun _ _ _ h=>h) (by rfl) (fun W hW=>?_) hS ?_
   ·obtain ⟨c0,c1,c2,c3,c4,c5,c6,c7⟩:=HX.out W hW
    clear hW
    go_simp
   simp only [Act.put,sAZ,sBZ,sCZ]
   refine tkZ (i:=2) 22 (.pointer (some ⟨sb,2,none⟩)) rfl rfl (by kernel_rfl) (fun _ _ _ h=>h) (by rfl) (fun W hW=>?_) hS ?_
   ·obtain ⟨c0,c1,c2,c3,c4,c5,c6,c7⟩:=HX.out W hW
    clear hW
    go_simp
   simp only [Act.put,sAZ,sBZ,sCZ]
   refine tkZ (i:=3) 23 (ptr tb) rfl rfl (by kernel_rfl) (fun _ _ _ h=>h) (by rfl) (fun W hW=>?_) hS ?_
   ·obtain ⟨c0,c1,c2,c3,c4,c5,c6,c7⟩:=HX.out W hW
    clear hW
    go_simp
   simp only [Act.put,sAZ,sBZ,sCZ]
   refine tkZ (i:=4) 24 (ptr sb) rfl rfl (by kernel_rfl) (fun _ _ _ h=>h) (by rfl) (fun W hW=>?_) hS ?_
   ·obtain ⟨c0,c1,c2,c3,c4,c5,c6,c7⟩:=HX.out W hW
    clear hW
    go_simp
   simp only [Act.put,sAZ,sBZ,sCZ]
   refine next_till 5 (by kernel_rfl) rfl (fun K hK=>?_)
   go_simp
   have hB1:=HB.out.1.drewN 1
   have SO:=sorted_any (w:=wr.drew) (f:=[]) (t:=[]) (S:=fun q=>F q∨G q) hB1.top.cells.2.2.2.2.2.1 hB1.map HH.out.2.2.2.2.1.1 (by have:=HH.out.2.2.2.2.2.1; omega) (fun q hq=>hB1.lt q (.inr (.inr hq)))
   rw [inSpan_all] at SO
   refine SO.mono ?_
   rintro e w2 ⟨v,rfl,hrd,hb⟩
   clear SO
   have hB2:=hB1.below hb
   have S2:w2.heap[sb]? = wr.heap[sb]?:=hb.block sb hB1.top.lt
   have HD:=Lib.hid (anZ hrd (anZ hb hB2))
   obtain ⟨va,vc,rfl, -⟩:=hrd.shape
   obtain ⟨vn,hvn⟩:∃ vn,vn=P.length:=⟨_,rfl⟩
   rw [← hvn] at HD ⊢
   clear hrd hb hB2 hB1 hvn
   go_simp
   refine hK.out _ _ (fun _=>S2) ?_
   clear hK K
   refine next_till 6 (by kernel_rfl) rfl (fun K hK=>?_)
   go_simp
   have BU:=HD.out.2.2.build HH.out.2.1 HH.out.2.2.1 HH.out.2.2.2.1 HH.out.2.2.2.2.1 HH.out.2.2.2.2.2.1 HH.out.2.2.2.2.2.2.1 HH.out.2.2.2.2.2.2.2.1 HD.out.1
   refine BU.mono ?_
   rintro e w3 ⟨i,BL,root',pgs',F',G',he,h1,h2,h3,h4,h5,h6,hB3,hst3⟩
   have S3:w3.heap[sb]? = wr.heap[sb]?:=(show w3.heap[sb]? = _ from hB3.top).trans (show wr.heap[sb]? = _ from HB.out.1.top).symm
   obtain ⟨rv,hrv⟩:∃ rv,rv=(if (writesP 362 D ((placeT (dropN ps r) i).zip BL)).2=0 then root' else 0):=⟨_,rfl⟩
   obtain ⟨rc,hrc⟩:∃ rc,rc=(writesP 362 D ((placeT (dropN ps r) i).zip BL)).2:=⟨_,rfl⟩
   have HR:=Lib.hid (show Rebuilds w2 sb db pb tb mb jv D (dropN ps r) g dead P F G (.returned (.tuple #[.int .i64 rv,err rc])) w3 from ⟨i,BL,root',pgs',F',G',by rw [hrv,hrc],h1,h2,h3,h4,h5,h6,hB3,hst3⟩)
   rw [← hrv, ← hrc] at he
   subst he
   clear BU h1 h2 h3 h4 h5 h6 hB3 hst3 hrv hrc S2 hS
   have hS:=S3
   go_simp
   refine hK.out _ _ (fun _=>S3) ?_
   clear hK K S3
   refine tkZ (i:=7) 27 (.int .i64 rv) rfl rfl (by kernel_rfl) (fun _ _ _ h=>h) (by rfl) (fun W hW=>?_) hS ?_
   ·clear HX
    clear hW
    go_simp
   simp only [Act.put,sAZ,sBZ,sCZ]
   refine tkZ (i:=8) 28 (.int .i64 rc) rfl rfl (by kernel_rfl) (fun _ _ _ h=>h) (by rfl) (fun W hW=>?_) hS ?_
   ·clear HX
    clear hW
    go_simp
   simp only [Act.put,sAZ,sBZ,sCZ]
   refine tkZ (i:=9) 2 (.int .i64 rv) rfl rfl (by kernel_rfl) (fun _ _ _ h=>h) (by rfl) (fun W hW=>?_) hS ?_
   ·clear HX
    clear hW
    go_simp
   simp only [Act.put,sAZ,sBZ,sCZ]
   refine tkZ (i:=10) 3 (.int .i64 rc) rfl rfl (by kernel_rfl) (fun _ _ _ h=>h) (by rfl) (fun W hW=>?_) hS ?_
   ·clear HX
    clear hW
    go_simp
   simp only [Act.put,sAZ,sBZ,sCZ]
   refine done_till (by kernel_rfl) ?_ _
   have HE:=Lib.hid (anZ (HB.out.1.drewN 1) (HB.out.2.bel (below_drewN (Below.refl _ _) 1)))
   have HF2:=Lib.hid (Step.of_below HD.out.2.1 (BS sb mb F G))
   clear hS
   go_wp2
   go_ret2
   refine ⟨w2,HD.out.2.2,HE.out.2.trans HF2.out,HR.out⟩
end
end Go.Proofs.YtgkofgifoiinkaaGreat
namespace Go.Proofs.YtgkofgifoiinkaaGreat
open Go.RowKit
theorem le_step (n:Nat) {r:Nat} (hr:r < 8):bits .or .u64 ((n % 2 ^ (8*r):Nat):Int) (IntKind.u64.wrap (((n / 2 ^ (8*r) % 256:Nat):Int)*2 ^ (8*r)))=((n % 2 ^ (8*(r+1)):Nat):Int):=by
 have hp:2 ^ (8*r)≤2 ^ 56:=Nat.pow_le_pow_right (by decide) (by omega)
 have hpos:0 < 2 ^ (8*r):=Nat.pow_pos (by decide)
 have h1:n % 2 ^ (8*r) < 2 ^ (8*r):=Nat.mod_lt _ hpos
 have h2:n / 2 ^ (8*r) % 256 < 256:=Nat.mod_lt _ (by decide)
 have e0:2 ^ (8*(r+1))=2 ^ (8*r)*256:=by rw [Nat.mul_succ,Nat.pow_add]
 have e1:n % 2 ^ (8*(r+1))=n % 2 ^ (8*r)+2 ^ (8*r)*(n / 2 ^ (8*r) % 256):=by rw [e0,Nat.mod_mul]
 have e2:(((n / 2 ^ (8*r) % 256:Nat):Int)*2 ^ (8*r))=((2 ^ (8*r)*(n / 2 ^ (8*r) % 256):Nat):Int):=by
  rw [Int.natCast_mul,Int.natCast_pow]
  exact Int.mul_comm _ _
 rw [e1,e2]
 generalize n % 2 ^ (8*r)=y at *
 generalize n / 2 ^ (8*r) % 256=x at *
 have h3:2 ^ (8*r)*x < 18446744073709551616:=Nat.lt_of_lt_of_le (Nat.mul_lt_mul_of_pos_left h2 hpos) (Nat.le_trans (Nat.mul_le_mul_right 256 hp) (by decide))
 have h4:y < 18446744073709551616:=Nat.lt_of_lt_of_le h1 (Nat.le_trans hp (by decide))
 rw [IntWalk.u64_in _ (by omega),u64_or_nat y _ h4 h3,Nat.or_comm, ← Nat.two_pow_add_eq_or_of_lt h1 x,Nat.add_comm]
set_option maxRecDepth 100000 in
set_option maxHeartbeats 2000000 in
theorem number_any {w:World} {v:Value} {n:Nat} {l:Bytes} (h:Bs w v (leL n 8++l)) (hn:n < 18446744073709551616):Calls Tryz.prog 115 #[v] w fun e w'=>e = .returned (.int .u64 (n:Int))∧w=w':=by
 obtain ⟨g,o,cap,rfl,hcap,hg,hc⟩:=h.open (by rw [List.length_append,leL_length]; omega)
 obtain ⟨m,hm⟩:∃ m,m=(leL n 8++l).length:=⟨_,rfl⟩
 have hm8:8≤m:=by rw [hm,List.length_append,leL_length]; omega
 rw [← hm]
 have hcell:∀ j,j < 8→w.cell? ⟨g,o+j,none⟩=some (.int .u8 ((n / 2 ^ (8*j) % 256:Nat):Int)):=fun j hj=>by
  have:=hc j (UInt8.ofNat (n / 2 ^ (8*j))) (by rw [List.getElem?_append_left (by rw [leL_length]; exact hj)]; exact leL_at hj)
  rw [UInt8.toNat_ofNat'] at this
  rw [this]
 have HC:=Lib.hid hcell
 clear h hc hm hcell hcap hg
 go_enter Tryz.func115,Tryz.ntmps115
 go_wp2
 go_loopw [2,4] (fun s i wr=>∃ r:Nat,r≤8∧i = .int .i64 (r:Int)∧s = .int .u64 ((n % 2 ^ (8*r):Nat):Int)∧wr=w) (fun _ i _=>8-(intOf i).toNat)
 case atStart=>exact ⟨0,by omega,rfl,by simp,rfl⟩
 case round =>
  obtain ⟨r,hr,rfl,rfl,rfl⟩:=hrel
  by_cases hlt:r < 8
  ·have c0:=HC.out r hlt
   have hil:(r:Int) < 8:=by omega
   have hr0:(0:Int)≤(r:Int):=by omega
   have hrm:(r:Int) < (m:Int):=by omega
   have hsh:(0:Int)≤8*(r:Int):=by omega
   have hx256:n / 2 ^ (8*r) % 256 < 256:=Nat.mod_lt _ (by decide)
   obtain ⟨x,hx⟩:∃ x,x=n / 2 ^ (8*r) % 256:=⟨_,rfl⟩
   obtain ⟨y,hy⟩:∃ y,y=n % 2 ^ (8*r):=⟨_,rfl⟩
   rw [← hx] at c0 hx256
   rw [← hy]
   have HX:=Lib.hid (anZ hx hy)
   clear hx hy
   have hs:=le_step n hlt
   rw [← HX.out.1, ← HX.out.2] at hs
   have HS:=Lib.hid hs
   clear hs
   go_wp2_with fail
   refine ⟨⟨r+1,by omega,by go_num,by rw [HS.out],trivial⟩,?_⟩
   simp [intOf]
   omega
  ·obtain rfl:r=8:=by omega
   have e:n % 2 ^ (8*8)=n:=Nat.mod_eq_of_lt hn
   rw [e]
   go_wp2
   go_ret
   exact ⟨rfl,rfl⟩
end Go.Proofs.YtgkofgifoiinkaaGreat
