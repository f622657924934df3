/- A piece of a commit's bytes: the walk of piece; condition: it stands whole. -/
import Derived.Test.YtgkofgifoiinkaaGreatN37
import Derived.Test.YtgkofgifoiinkaaGreatN29
import Derived.Test.YtgkofgifoiinkaaGreatN36
import Derived.Test.YtgkofgifoiinkaaGreatN07
import Derived.Sort.OwnSortedInts
import Derived.Test.YtgkofgifoiinkaaGreatN35
import Derived.Test.YtgkofgifoiinkaaGreatN31
import Derived.Test.YtgkofgifoiinkaaGreatN32
import Derived.Test.YtgkofgifoiinkaaGreatN22
namespace Go.Proofs.YtgkofgifoiinkaaGreat
open Go.RowKit
attribute [local go_sem] Oper.semAt_some
section
variable {w:World} {tb db pb fr:Nat} {D:Dv} {ps:List Pg} {S:Nat→Prop} {fv tv:Value} {f t:Bytes}
def Scans (w:World) (S:Nat→Prop) (prs:List Pr) (e:Ending) (w':World):Prop:=∃ v,e = .returned (.tuple #[v,err 0])∧Rd kdPr w' S v prs∧Below w.heap.size w w'
set_option maxRecDepth 100000 in
set_option maxHeartbeats 8000000 in
theorem scan_any (hT:TrS w tb db pb fr D ps S) (ho:D.on=true) (hf:Bsf w S fv f) (hs:Bsf w S tv t) {root:Int} {prs:List Pr} {pgs:List Nat} (hR:Rt (blkOf D fr) ps.length root prs pgs) (hM:pgs.length≤4096) :
  Calls Tryz.prog 93 #[ptr tb, .int .i64 root,fv,tv] w (Scans w S (inSpan f t prs)):=by
 obtain ⟨fa,fc,rfl,_⟩:=hf.1.shape
 obtain ⟨ta,tc,rfl,_⟩:=hs.1.shape
 obtain ⟨fn,hfn⟩:∃ fn,fn=f.length:=⟨_,rfl⟩
 obtain ⟨tn,htn⟩:∃ tn,tn=t.length:=⟨_,rfl⟩
 rw [← hfn] at hf ⊢
 rw [← htn] at hs ⊢
 clear hfn htn
 have hroot:=hR.lt.2
 have hb2:Below w.heap.size w ((w.alloc (.cells #[.slice none 0 0] 36)).alloc (.cells #[.int .i64 0] 28)):=((Below.refl _ _).alloc (Nat.le_refl _) _).alloc (by simp) _
 have C1:Cel ((w.alloc (.cells #[.slice none 0 0] 36)).alloc (.cells #[.int .i64 0] 28)) w.heap.size [.slice none 0 0] 36:=(Cel.new w _ _).alloc _
 have C2:Cel ((w.alloc (.cells #[.slice none 0 0] 36)).alloc (.cells #[.int .i64 0] 28)) (w.heap.size+1) [.int .i64 0] 28:=by
  have:=Cel.new (w.alloc (.cells #[.slice none 0 0] 36)) #[.int .i64 0] 28
  simpa using this
 obtain ⟨w2,hw2⟩:∃ w2,w2=(w.alloc (.cells #[.slice none 0 0] 36)).alloc (.cells #[.int .i64 0] 28):=⟨_,rfl⟩
 have hz2:w2.heap.size=w.heap.size+2:=by rw [hw2]; simp
 have R:=tready_any root true _ (hT.below hb2)
 rw [hroot,if_pos ⟨rfl,rfl⟩] at R
 have PA:=pairs_any tb root (.slice fa fn fc) (.slice ta tn tc) (w2.alloc (.cells #[.slice none 0 0] 36))
 rw [hw2] at PA
 rw [← hw2] at hb2 C1 C2
 have HC:=Lib.hid (anZ hb2 (anZ C1 (anZ C2 (anZ hT (anZ hf (anZ hs (anZ hR (anZ hM (anZ hz2 hw2)))))))))
 clear hroot hb2 C1 C2 hT hf hs hR hM hz2 hw2
 refine calls_of_wp_marked 12 Tryz.func93 rfl ?_
 simp only [Tryz.ntmps93,List.size_toArray,List.length_cons,List.length_nil,Nat.reduceAdd,Nat.reduceSub,Array.replicate_succ,Array.replicate_zero,List.push_toArray,List.append_toArray,List.nil_append,List.cons_append]
 go_wp2_with fail
 refine R.mono ?_
 rintro e w1 ⟨rfl,rfl⟩
 clear R
 go_wp2_with fail
 refine PA.mono ?_
 rintro e w1 ⟨rfl,rfl⟩
 clear PA
 go_wp2
 obtain ⟨hb2,C1,C2,hT,hf,hs,hR,hM,hz2,hw2⟩:=HC.out
 simp only [← hw2]
 clear hw2
 have BL:=(((Cel.new w2 #[.slice none 0 0] 36).alloc (.cells #[ptr tb] 86)).alloc (.cells #[.int .i64 root] 3)).alloc (.cells #[.slice fa fn fc, .slice ta tn tc] 176)
 have BT:=((Cel.new (w2.alloc (.cells #[.slice none 0 0] 36)) #[ptr tb] 86).alloc (.cells #[.int .i64 root] 3)).alloc (.cells #[.slice fa fn fc, .slice ta tn tc] 176)
 have BR:=(Cel.new ((w2.alloc (.cells #[.slice none 0 0] 36)).alloc (.cells #[ptr tb] 86)) #[.int .i64 root] 3).alloc (.cells #[.slice fa fn fc, .slice ta tn tc] 176)
 have BS:=Cel.new (((w2.alloc (.cells #[.slice none 0 0] 36)).alloc (.cells #[ptr tb] 86)).alloc (.cells #[.int .i64 root] 3)) #[.slice fa fn fc, .slice ta tn tc] 176
 have hz6:((((w2.alloc (.cells #[.slice none 0 0] 36)).alloc (.cells #[ptr tb] 86)).alloc (.cells #[.int .i64 root] 3)).alloc (.cells #[.slice fa fn fc, .slice ta tn tc] 176)).heap.size=w.heap.size+6:=by simp [hz2]
 have hb26:Below w2.heap.size w2 ((((w2.alloc (.cells #[.slice none 0 0] 36)).alloc (.cells #[ptr tb] 86)).alloc (.cells #[.int .i64 root] 3)).alloc (.cells #[.slice fa fn fc, .slice ta tn tc] 176)):=((((Below.refl _ _).alloc (Nat.le_refl _) _).alloc (by simp) _).alloc (by simp; omega) _).alloc (by simp; omega) _
 have hbw6:Below w.heap.size w ((((w2.alloc (.cells #[.slice none 0 0] 36)).alloc (.cells #[ptr tb] 86)).alloc (.cells #[.int .i64 root] 3)).alloc (.cells #[.slice fa fn fc, .slice ta tn tc] 176)):=hb2.trans (hb26.mono (by omega))
 simp only [World.size_alloc,hz2,Nat.add_assoc,Nat.reduceAdd] at BL BT BR BS
 simp only [World.size_alloc,hz2,Nat.add_assoc,Nat.reduceAdd]
 replace C1:=C1.below hb26 C1.lt
 replace C2:=C2.below hb26 C2.lt
 generalize (((w2.alloc (.cells #[.slice none 0 0] 36)).alloc (.cells #[ptr tb] 86)).alloc (.cells #[.int .i64 root] 3)).alloc (.cells #[.slice fa fn fc, .slice ta tn tc] 176)=w6 at *
 refine range_on (n:=12) (by decide) (gf:=148) (lb := #[.pointer (some ⟨w.heap.size+3,0,none⟩), .pointer (some ⟨w.heap.size+4,0,none⟩), .pointer (some ⟨w.heap.size+5,0,none⟩)]) rfl (enters_of Tryz.func148 (by kernel_rfl) rfl) ?_
 intro gn rec W1 hrec hW1
 have bw1:Below w6.heap.size w6 W1:=by rw [hW1]; exact ((Below.refl _ _).alloc (Nat.le_refl _) _).alloc (by simp) _
 have hz1:W1.heap.size=w.heap.size+8:=by rw [hW1]; simp [hz6]
 have bwW:Below w.heap.size w W1:=hbw6.trans (bw1.mono (by omega))
 have L1:Lst kdPr 68 36 w S w.heap.size (rec .ready none) [] W1 (Five w.heap.size) (Five w.heap.size) (.slice none 0 0):={
  cl:=BL.below bw1 BL.lt
  ro:=Ro.nil _ _ _ _
  cc:=fun q=>⟨.inl,fun h=>h.elim id fun h=>by cases h⟩
  cf:=fun _ h=>h
  nl:=fun q hq=>by cases hq
  ll:=by
   have:=World.alloc_heap_new (w6.alloc (.deferred (some []))) (.loop (rec .ready none))
   rw [World.size_alloc,hz6] at this
   rw [hW1]
   exact this
  dd:=by
   rw [hW1, ← hz6]
   exact (Below.heap_alloc _ _ _ (by simp)).trans (World.alloc_heap_new w6 _)
  c1:=C1.below bw1 C1.lt
  c2:=C2.below bw1 C2.lt
  bw:=bwW
  fl:=fun q hq=>by unfold Five at hq; omega }
 rw [hz6]
 have hTk:TakesP (fun pre W C F=>∃ lv,Lst kdPr 68 36 w S w.heap.size (rec .ready none) pre W C F lv) S (4096*503) (w.heap.size+7):=by
  rintro m acc p ka kc va vc W2 C F ⟨lv,hL⟩ hk hv hacc
  obtain ⟨kn,hkn⟩:∃ kn,kn=p.1.length:=⟨_,rfl⟩
  obtain ⟨vn,hvn⟩:∃ vn,vn=p.2.length:=⟨_,rfl⟩
  rw [← hkn] at hk ⊢
  rw [← hvn] at hv ⊢
  clear hkn hvn
  refine yield_deep (m:=12) m (yield_on (a₁:={ tmps := #[ptr tb, .int .i64 root, .slice fa fn fc, .slice ta tn tc,undef,undef,undef,undef, .pointer (some ⟨w.heap.size,0,none⟩), .pointer (some ⟨w.heap.size+1,0,none⟩),err 0, .pointer (some ⟨w.heap.size+2,0,none⟩), .pointer (some ⟨W2.heap.size,0,none⟩), .int .i64 0,ptr tb, .int .i64 root,err 0,err 0, .bool false,undef,ptr tb, .int .i64 root, .slice fa fn fc, .slice ta tn tc,spv (.slice fa fn fc) (.slice ta tn tc), .func (.func 148) #[] #[.pointer (some ⟨w.heap.size+3,0,none⟩), .pointer (some ⟨w.heap.size+4,0,none⟩), .pointer (some ⟨w.heap.size+5,0,none⟩)], .agg #[.slice ka kn kc, .slice va vn vc], .int .i64 0,undef,undef,undef,undef,undef,undef,undef,undef],defers:=[] }) (W1:=W2.alloc (.cells #[.slice ka kn kc, .slice va vn vc] 68)) hrec hL.ll rfl ?assign ?hl1 ?body)
  case assign =>
   clear hT hf hs hR hM hL hk hv hacc L1 C1 C2 BL BT BR BS hb2 hb26 hbw6 bw1 bwW hW1 hz1 hz2 hz6
   intro K hK
   gi_wp2
   exact hK
  case hl1=>exact (Below.heap_alloc _ _ _ (Array.getElem?_eq_some_iff.1 hL.ll).1).trans hL.ll
  case body =>
   have hba:Below W2.heap.size W2 (W2.alloc (.cells #[.slice ka kn kc, .slice va vn vc] 68)):=(Below.refl _ _).alloc (Nat.le_refl _) _
   obtain ⟨hLb,stb⟩:=(hL.below hba).turn (rec .busy none)
   have h8:=hL.eight
   have CP:=(Cel.new W2 #[.slice ka kn kc, .slice va vn vc] 68).kept (w':=(W2.alloc (.cells #[.slice ka kn kc, .slice va vn vc] 68)).putObj (w.heap.size+7) (.loop (rec .busy none))) (World.putObj_heap_other (by omega))
   have st0:Step C W2 ((W2.alloc (.cells #[.slice ka kn kc, .slice va vn vc] 68)).putObj (w.heap.size+7) (.loop (rec .busy none))) C:=(Step.of_below hba C).trans stb
   have stF:Step F W2 ((W2.alloc (.cells #[.slice ka kn kc, .slice va vn vc] 68)).putObj (w.heap.size+7) (.loop (rec .busy none))) F:=(Step.of_below hba F).trans (put_step (hL.cf _ (hL.five (by unfold Five; omega))))
   generalize (W2.alloc (.cells #[.slice ka kn kc, .slice va vn vc] 68)).putObj (w.heap.size+7) (.loop (rec .busy none))=Wb at *
   have hk2:=hk.step (Su.step stF S)
   have hv2:=hv.step (Su.step stF S)
   have hbl:Below Wb.heap.size Wb (Wb.alloc (.cells #[.slice ka kn kc, .slice va vn vc] 68)):=(Below.refl _ _).alloc (Nat.le_refl _) _
   have hLl:=hLb.below hbl
   have hlit:=rd_lit kdPr Wb 68 (Su S F) (fun q hq=>hq.elim (fun h=>by have:=hT.lt q h; have:=hLb.bw.size; omega) fun h=>(hLb.fl q h).2) [⟨⟨ka,kn,kc⟩,⟨va,vn,vc⟩,p⟩] #[.slice ka kn kc, .slice va vn vc] rfl (fun t ht=>by rw [List.mem_singleton.1 ht]; exact ⟨hk2,hv2⟩) (by simp) (n:=1) rfl
   obtain ⟨v',w7,hrun,ro7,st7,gr7,lo7⟩:=run_append_ro (m:=[p]) par_ty 36 hLl.ro hlit (by simp; omega)
   obtain ⟨hP,stP,hc7,hmP⟩:=hLl.put gr7 lo7 ro7
   obtain ⟨la,lc,rfl,_⟩:=hLl.ro.shape
   obtain ⟨ua,uc,rfl,_⟩:=ro7.shape
   obtain ⟨un,hun⟩:∃ un,un=(acc++[p]).length:=⟨_,rfl⟩
   rw [← hun] at hrun hP stP hmP
   obtain ⟨hPt,stt⟩:=hP.turn (rec .ready none)
   have hall:=((st0.bel hbl).trans stP).trans stt
   have hle:W2.heap.size≤(Wb.alloc (.cells #[.slice ka kn kc, .slice va vn vc] 68)).heap.size:=(st0.bel hbl).size
   have x0:=CP.cell 0
   have x1:=CP.cell 1
   have l0:=hLb.cl.cell 0
   have l7:=hc7.cell 0
   have f7:=hc7.frozen 0
   have HE:=Lib.hid (anZ hP (anZ hPt (anZ hall (fun q hq=>(hmP q hq).imp id fun h=>Nat.le_trans hle h))))
   clear hT hf hs hR hM hL hk hv hacc L1 C1 C2 BL BT BR BS hb2 hb26 hbw6 bw1 bwW hW1 hz1 hz2 hz6 hba hLb stb h8 CP st0 stF hk2 hv2 hbl hLl hlit ro7 st7 gr7 lo7 hP stP hc7 hmP hun hPt stt hall hle hrec
   gi_wp2_with (gi_at_builtin; refine round_append_run rfl (.tmp 31) (.tmp 33) _ rfl rfl rfl hrun ?_)
   obtain ⟨hP,hPt,hall,hm⟩:=HE.out
   exact ⟨hP.ll,_,hall,_,⟨_,hPt⟩,fun q hq=>.inl hq,hm⟩
 refine ((callsIn_wide (n:=12-1)).2 (pairs1_any Lst.holds hT ho hf hs hTk hR ⟨_,L1⟩ ((BR.below bw1 BR.lt).cell 0) ((BT.below bw1 BT.lt).cell 0) (BS.below bw1 BS.lt) (fun h=>by unfold Five at h; omega) hM)).mono ?_
 rintro e W2 ⟨⟨r,rfl⟩,C8,F8,st8,lv,hL8⟩
 refine ⟨⟨_,rfl⟩,hL8.ll,?_⟩
 obtain ⟨hLe, -⟩:=hL8.turn (rec .exhausted none)
 obtain ⟨la,lc,rfl,_⟩:=hLe.ro.shape
 obtain ⟨an,han⟩:∃ an,an=(inSpan f t prs).length:=⟨_,rfl⟩
 rw [← han] at hLe
 have hD:=hLe.done hT.lt
 have l0:=hLe.cl.cell 0
 have e0:=hLe.c1.cell 0
 have e1:=hLe.c2.cell 0
 have g0:=hLe.c1.frozen 0
 have g1:=hLe.c2.frozen 0
 have HE:=Lib.hid hD
 clear hT hf hs hR hM L1 C1 C2 BL BT BR BS hb2 hb26 hbw6 bw1 bwW hW1 hz1 hz2 hz6 hTk hL8 st8 hLe hD han hrec
 generalize W2.putObj (w.heap.size+7) (.loop (rec .exhausted none))=We at *
 go_wp2
 obtain ⟨hb,hr,h1,h2,hd⟩:=HE.out
 refine ⟨by simp, .inl ⟨_,_,rfl,run_takeDeferred hd,?_⟩⟩
 exact ⟨_,results_cells2 (v1:=.slice la an lc) (v2:=.int .i64 0) rfl rfl rfl Tryz.underlying36 rfl Tryz.underlying28 rfl (h1.cell 0) (h2.cell 0),_,rfl,hr,hb⟩
end
end Go.Proofs.YtgkofgifoiinkaaGreat
namespace Go.Proofs.YtgkofgifoiinkaaGreat
open Go.RowKit Go.Sort Go.Shelf
attribute [local go_sem] Oper.semAt_some
def sortedI (l:List Int):List Int:=l.mergeSort fun x y=>decide (x≤y)
theorem kdIn_cells (l:List Int):kdIn.cells l=l.map (Value.int .i64):=by
 induction l with
 | nil=>rfl
 | cons a r ih =>
  unfold Kd.cells at *
  rw [List.flatMap_cons,ih]
  rfl
theorem sort_any {w:World} {S:Nat→Prop} {v:Value} {l:List Int} (h:Ro kdIn 3 w S v l) (hl:l.length < 4294967296) :
  Calls Tryz.prog 118 #[v] w fun e w'=>e = .returned (.tuple #[])∧Ro kdIn 3 w' S v (sortedI l)∧w.grownBy w' v.ownBlock:=by
 obtain ⟨ts,h1,h2,h3,h4⟩:=h
 obtain rfl:ts=l:=by rw [← h1]; exact (List.map_id ts).symm
 have hlen:(sortedI ts).length=ts.length:=by unfold sortedI; simp
 rw [kdIn_cells] at h2
 rcases h2.2 with ⟨rfl,h0⟩ | ⟨g,cap,cur,rfl,hb,hg,hn,hm,hsz,htk⟩
 ·obtain rfl:ts=[]:=List.eq_nil_of_length_eq_zero h0
  refine (AnyM.slices_Sort_int_none Tryz.sortA none 0 w).mono ?_
  rintro e w' ⟨rfl,rfl⟩
  have e0:sortedI []=[]:=by unfold sortedI; simp
  rw [e0]
  exact ⟨rfl,⟨[],rfl,h2,h3,h4⟩,rfl,rfl,rfl,Nat.le_refl _,fun _ _ _=>rfl⟩
 ·have e1:ts.length*kdIn.sz=ts.length:=Nat.mul_one _
  rw [e1] at htk
  have hH:Go.Sort.Holds (Value.int .i64) w g 0 ts.toArray:=holds_of_blockI hg htk
  refine (AnyM.slices_Sort_int Tryz.sortA g 0 cap ts w hH (Array.getElem?_eq_some_iff.1 hg).1 (by omega)).mono ?_
  rintro e w' ⟨rfl,n,os,rfl⟩
  refine ⟨rfl,⟨sortedI ts,List.map_id _,?_,(fun _ _=>trivial),h4⟩,grownBy_sortedI _⟩
  rw [hlen,kdIn_cells]
  exact ownsRow_sortedI (n:=n) (os:=os) (ts:=sortedI ts) hlen (Nat.zero_le g) hg hn hm hsz
section
variable {w:World} {tb db pb fr:Nat} {D:Dv} {ps:List Pg} {S:Nat→Prop}
def Walks (w:World) (S:Nat→Prop) (pgs:List Nat) (e:Ending) (w':World):Prop:=∃ v,e = .returned (.tuple #[v,err 0])∧Rd kdIn w' S v (sortedI (ints pgs))∧Below w.heap.size w w'
set_option maxRecDepth 100000 in
set_option maxHeartbeats 8000000 in
theorem walk_any (hT:TrS w tb db pb fr D ps S) (ho:D.on=true) {root:Int} {prs:List Pr} {pgs:List Nat} (hR:Rt (blkOf D fr) ps.length root prs pgs) (hM:pgs.length≤4096) :
  Calls Tryz.prog 91 #[ptr tb, .int .i64 root] w (Walks w S pgs):=by
 have hroot:=hR.lt.2
 have hb2:Below w.heap.size w ((w.alloc (.cells #[.slice none 0 0] 40)).alloc (.cells #[.int .i64 0] 28)):=((Below.refl _ _).alloc (Nat.le_refl _) _).alloc (by simp) _
 have C1:Cel ((w.alloc (.cells #[.slice none 0 0] 40)).alloc (.cells #[.int .i64 0] 28)) w.heap.size [.slice none 0 0] 40:=(Cel.new w _ _).alloc _
 have C2:Cel ((w.alloc (.cells #[.slice none 0 0] 40)).alloc (.cells #[.int .i64 0] 28)) (w.heap.size+1) [.int .i64 0] 28:=by
  have:=Cel.new (w.alloc (.cells #[.slice none 0 0] 40)) #[.int .i64 0] 28
  simpa using this
 obtain ⟨w2,hw2⟩:∃ w2,w2=(w.alloc (.cells #[.slice none 0 0] 40)).alloc (.cells #[.int .i64 0] 28):=⟨_,rfl⟩
 have hz2:w2.heap.size=w.heap.size+2:=by rw [hw2]; simp
 have R:=tready_any root true _ (hT.below hb2)
 rw [hroot,if_pos ⟨rfl,rfl⟩] at R
 have PA:=nodes_any tb root (.slice none 0 0) (.slice none 0 0) (w2.alloc (.cells #[.slice none 0 0] 40))
 rw [hw2] at PA
 rw [← hw2] at hb2 C1 C2
 have HC:=Lib.hid (anZ hb2 (anZ C1 (anZ C2 (anZ hT (anZ hR (anZ hM (anZ hz2 hw2)))))))
 clear hroot hb2 C1 C2 hT hR hM hz2 hw2
 refine calls_of_wp_marked 12 Tryz.func91 rfl ?_
 simp only [Tryz.ntmps91,List.size_toArray,List.length_cons,List.length_nil,Nat.reduceAdd,Nat.reduceSub,Array.replicate_succ,Array.replicate_zero,List.push_toArray,List.append_toArray,List.nil_append,List.cons_append]
 go_wp2_with fail
 refine R.mono ?_
 rintro e w1 ⟨rfl,rfl⟩
 clear R
 go_wp2_with fail
 refine PA.mono ?_
 rintro e w1 ⟨rfl,rfl⟩
 clear PA
 go_wp2
 obtain ⟨hb2,C1,C2,hT,hR,hM,hz2,hw2⟩:=HC.out
 simp only [← hw2]
 clear hw2
 have BL:=(((Cel.new w2 #[.slice none 0 0] 40).alloc (.cells #[ptr tb] 86)).alloc (.cells #[.int .i64 root] 3)).alloc (.cells #[.slice none 0 0, .slice none 0 0] 176)
 have BT:=((Cel.new (w2.alloc (.cells #[.slice none 0 0] 40)) #[ptr tb] 86).alloc (.cells #[.int .i64 root] 3)).alloc (.cells #[.slice none 0 0, .slice none 0 0] 176)
 have BR:=(Cel.new ((w2.alloc (.cells #[.slice none 0 0] 40)).alloc (.cells #[ptr tb] 86)) #[.int .i64 root] 3).alloc (.cells #[.slice none 0 0, .slice none 0 0] 176)
 have BS:=Cel.new (((w2.alloc (.cells #[.slice none 0 0] 40)).alloc (.cells #[ptr tb] 86)).alloc (.cells #[.int .i64 root] 3)) #[.slice none 0 0, .slice none 0 0] 176
 have hz6:((((w2.alloc (.cells #[.slice none 0 0] 40)).alloc (.cells #[ptr tb] 86)).alloc (.cells #[.int .i64 root] 3)).alloc (.cells #[.slice none 0 0, .slice none 0 0] 176)).heap.size=w.heap.size+6:=by simp [hz2]
 have hb26:Below w2.heap.size w2 ((((w2.alloc (.cells #[.slice none 0 0] 40)).alloc (.cells #[ptr tb] 86)).alloc (.cells #[.int .i64 root] 3)).alloc (.cells #[.slice none 0 0, .slice none 0 0] 176)):=((((Below.refl _ _).alloc (Nat.le_refl _) _).alloc (by simp) _).alloc (by simp; omega) _).alloc (by simp; omega) _
 have hbw6:Below w.heap.size w ((((w2.alloc (.cells #[.slice none 0 0] 40)).alloc (.cells #[ptr tb] 86)).alloc (.cells #[.int .i64 root] 3)).alloc (.cells #[.slice none 0 0, .slice none 0 0] 176)):=hb2.trans (hb26.mono (by omega))
 simp only [World.size_alloc,hz2,Nat.add_assoc,Nat.reduceAdd] at BL BT BR BS
 simp only [World.size_alloc,hz2,Nat.add_assoc,Nat.reduceAdd]
 replace C1:=C1.below hb26 C1.lt
 replace C2:=C2.below hb26 C2.lt
 generalize (((w2.alloc (.cells #[.slice none 0 0] 40)).alloc (.cells #[ptr tb] 86)).alloc (.cells #[.int .i64 root] 3)).alloc (.cells #[.slice none 0 0, .slice none 0 0] 176)=w6 at *
 refine range_on (n:=12) (by decide) (gf:=144) (lb := #[.pointer (some ⟨w.heap.size+4,0,none⟩), .pointer (some ⟨w.heap.size+3,0,none⟩), .pointer (some ⟨w.heap.size+5,0,none⟩)]) rfl (enters_of Tryz.func144 (by kernel_rfl) rfl) ?_
 intro gn rec W1 hrec hW1
 have bw1:Below w6.heap.size w6 W1:=by rw [hW1]; exact ((Below.refl _ _).alloc (Nat.le_refl _) _).alloc (by simp) _
 have hz1:W1.heap.size=w.heap.size+8:=by rw [hW1]; simp [hz6]
 have bwW:Below w.heap.size w W1:=hbw6.trans (bw1.mono (by omega))
 have L1:Lst kdIn 3 40 w S w.heap.size (rec .ready none) [] W1 (Five w.heap.size) (Five w.heap.size) (.slice none 0 0):={
  cl:=BL.below bw1 BL.lt
  ro:=Ro.nil _ _ _ _
  cc:=fun q=>⟨.inl,fun h=>h.elim id fun h=>by cases h⟩
  cf:=fun _ h=>h
  nl:=fun q hq=>by cases hq
  ll:=by
   have:=World.alloc_heap_new (w6.alloc (.deferred (some []))) (.loop (rec .ready none))
   rw [World.size_alloc,hz6] at this
   rw [hW1]
   exact this
  dd:=by
   rw [hW1, ← hz6]
   exact (Below.heap_alloc _ _ _ (by simp)).trans (World.alloc_heap_new w6 _)
  c1:=C1.below bw1 C1.lt
  c2:=C2.below bw1 C2.lt
  bw:=bwW
  fl:=fun q hq=>by unfold Five at hq; omega }
 rw [hz6]
 have hTk:TakesN (fun (acc:List Nd) W C F=>∃ lv,Lst kdIn 3 40 w S w.heap.size (rec .ready none) (acc.map Nd.page) W C F lv) S 4096 (w.heap.size+7):=by
  rintro m acc nd v W2 C F ⟨lv,hL⟩ ⟨ea,ec,ta,tc,rfl, -, -⟩-hacc
  obtain ⟨npg,nl,nes,nto⟩:=nd
  simp only
  obtain ⟨en,hen⟩:∃ en,en=nes.length:=⟨_,rfl⟩
  obtain ⟨tn,htn⟩:∃ tn,tn=nto.length:=⟨_,rfl⟩
  rw [← hen, ← htn]
  clear hen htn
  refine yield_deep (m:=12) m (yield_on (a₁:={ tmps := #[ptr tb, .int .i64 root,undef,undef, .pointer (some ⟨w.heap.size,0,none⟩), .pointer (some ⟨w.heap.size+1,0,none⟩),err 0, .pointer (some ⟨w.heap.size+2,0,none⟩), .pointer (some ⟨W2.heap.size,0,none⟩), .int .i64 0,ptr tb, .int .i64 root,err 0,err 0, .bool false,undef,ptr tb, .int .i64 root,spv (.slice none 0 0) (.slice none 0 0), .func (.func 144) #[] #[.pointer (some ⟨w.heap.size+4,0,none⟩), .pointer (some ⟨w.heap.size+3,0,none⟩), .pointer (some ⟨w.heap.size+5,0,none⟩)],ndv npg (nl:Int) (.slice ea en ec) (.slice ta tn tc), .int .i64 0,undef,undef,undef,undef,undef,undef,undef,undef,undef,undef,undef],defers:=[] }) (W1:=W2.alloc (.cells #[.int .i64 npg, .int .i64 (nl:Int), .slice ea en ec, .slice ta tn tc] 179)) hrec hL.ll rfl ?assign ?hl1 ?body)
  case assign =>
   clear hT hR hM hL hacc L1 C1 C2 BL BT BR BS hb2 hb26 hbw6 bw1 bwW hW1 hz1 hz2 hz6
   intro K hK
   gi_wp2
   exact hK
  case hl1=>exact (Below.heap_alloc _ _ _ (Array.getElem?_eq_some_iff.1 hL.ll).1).trans hL.ll
  case body =>
   have hba:Below W2.heap.size W2 (W2.alloc (.cells #[.int .i64 npg, .int .i64 (nl:Int), .slice ea en ec, .slice ta tn tc] 179)):=(Below.refl _ _).alloc (Nat.le_refl _) _
   obtain ⟨hLb,stb⟩:=(hL.below hba).turn (rec .busy none)
   have h8:=hL.eight
   have CP:=(Cel.new W2 #[.int .i64 npg, .int .i64 (nl:Int), .slice ea en ec, .slice ta tn tc] 179).kept (w':=(W2.alloc (.cells #[.int .i64 npg, .int .i64 (nl:Int), .slice ea en ec, .slice ta tn tc] 179)).putObj (w.heap.size+7) (.loop (rec .busy none))) (World.putObj_heap_other (by omega))
   have st0:Step C W2 ((W2.alloc (.cells #[.int .i64 npg, .int .i64 (nl:Int), .slice ea en ec, .slice ta tn tc] 179)).putObj (w.heap.size+7) (.loop (rec .busy none))) C:=(Step.of_below hba C).trans stb
   generalize (W2.alloc (.cells #[.int .i64 npg, .int .i64 (nl:Int), .slice ea en ec, .slice ta tn tc] 179)).putObj (w.heap.size+7) (.loop (rec .busy none))=Wb at *
   have hbl:Below Wb.heap.size Wb (Wb.alloc (.cells #[.int .i64 npg] 3)):=(Below.refl _ _).alloc (Nat.le_refl _) _
   have hLl:=hLb.below hbl
   have hlit:=rd_lit kdIn Wb 3 (Su S F) (fun q hq=>hq.elim (fun h=>by have:=hT.lt q h; have:=hLb.bw.size; omega) fun h=>(hLb.fl q h).2) [npg] #[.int .i64 npg] rfl (fun _ _=>trivial) (by simp) (n:=1) rfl
   obtain ⟨v',w7,hrun,ro7,st7,gr7,lo7⟩:=run_append_ro (m:=[npg]) int_ty 40 hLl.ro hlit (by simp; omega)
   obtain ⟨hP,stP,hc7,hmP⟩:=hLl.put gr7 lo7 ro7
   obtain ⟨la,lc,rfl,_⟩:=hLl.ro.shape
   obtain ⟨ua,uc,rfl,_⟩:=ro7.shape
   obtain ⟨un,hun⟩:∃ un,un=(acc.map Nd.page++[npg]).length:=⟨_,rfl⟩
   obtain ⟨an,han⟩:∃ an,an=(acc.map Nd.page).length:=⟨_,rfl⟩
   rw [← hun] at hrun hP stP hmP
   rw [← han] at hrun hLb hc7
   obtain ⟨hPt,stt⟩:=hP.turn (rec .ready none)
   have hall:=((st0.bel hbl).trans stP).trans stt
   have hle:W2.heap.size≤(Wb.alloc (.cells #[.int .i64 npg] 3)).heap.size:=(st0.bel hbl).size
   have x0:=CP.cell 0
   have l0:=hLb.cl.cell 0
   have l7:=hc7.cell 0
   have f7:=hc7.frozen 0
   have HE:=Lib.hid (anZ hP (anZ hPt (anZ hall (fun q hq=>(hmP q hq).imp id fun h=>Nat.le_trans hle h))))
   clear hT hR hM hL hacc L1 C1 C2 BL BT BR BS hb2 hb26 hbw6 bw1 bwW hW1 hz1 hz2 hz6 hba hLb stb h8 CP st0 hbl hLl hlit ro7 st7 gr7 lo7 hP stP hc7 hmP hun han hPt stt hall hle hrec
   gi_wp2_with (gi_at_builtin; refine round_append_run rfl (.tmp 25) (.tmp 28) _ rfl rfl rfl hrun ?_)
   obtain ⟨hP,hPt,hall,hm⟩:=HE.out
   exact ⟨hP.ll,_,hall,_,⟨_,hPt⟩,fun q hq=>.inl hq,hm⟩
 have HH:HoldsT w (fun (acc:List Nd) W C F=>∃ lv,Lst kdIn 3 40 w S w.heap.size (rec .ready none) (acc.map Nd.page) W C F lv):=⟨fun h=>Lst.holds.base h,fun h a b c d=>Lst.holds.stay h a b c d⟩
 refine ((callsIn_wide (n:=12-1)).2 (nodes1_any HH hT ho (Bsf.nil w S) (Bsf.nil w S) hTk (acc:=[]) hR ⟨_,L1⟩ ((BR.below bw1 BR.lt).cell 0) ((BT.below bw1 BT.lt).cell 0) ((BS.below bw1 BS.lt).cell 0) ((BS.below bw1 BS.lt).cell 1) (by simpa using hM))).mono ?_
 rintro e W2 ⟨⟨r,rfl⟩,C8,F8,ns,st8,⟨lv,hL8⟩,hw8⟩
 refine ⟨⟨_,rfl⟩,hL8.ll,?_⟩
 rw [List.nil_append,hw8.pg rfl rfl] at hL8
 obtain ⟨hLe, -⟩:=hL8.turn (rec .exhausted none)
 have SO:=sort_any hLe.ro (by rw [ints_length]; omega)
 obtain ⟨la,lc,rfl,_⟩:=hLe.ro.shape
 obtain ⟨an,han⟩:∃ an,an=(ints pgs).length:=⟨_,rfl⟩
 rw [← han] at hLe SO
 have l0:=hLe.cl.cell 0
 have HE:=Lib.hid (anZ hLe hT)
 clear hT hR hM L1 C1 C2 BL BT BR BS hb2 hb26 hbw6 bw1 bwW hW1 hz1 hz2 hz6 hTk hL8 st8 hLe han hrec HH hw8
 generalize W2.putObj (w.heap.size+7) (.loop (rec .exhausted none))=We at *
 go_wp2_with fail
 refine SO.mono ?_
 rintro e w9 ⟨rfl,ro9,gr9⟩
 clear SO l0
 obtain ⟨hLe,hT⟩:=HE.out
 have hL9:=hLe.same gr9 ro9
 have hD:=hL9.done hT.lt
 have l0:=hL9.cl.cell 0
 have e0:=hL9.c1.cell 0
 have e1:=hL9.c2.cell 0
 have g0:=hL9.c1.frozen 0
 have g1:=hL9.c2.frozen 0
 have HE2:=Lib.hid hD
 clear hLe hT hL9 hD ro9 gr9 HE
 go_wp2
 obtain ⟨hb,hr,h1,h2,hd⟩:=HE2.out
 refine ⟨by simp, .inl ⟨_,_,rfl,run_takeDeferred hd,?_⟩⟩
 exact ⟨_,results_cells2 (v1:=.slice la an lc) (v2:=.int .i64 0) rfl rfl rfl Tryz.underlying40 rfl Tryz.underlying28 rfl (h1.cell 0) (h2.cell 0),_,rfl,hr,hb⟩
end
end Go.Proofs.YtgkofgifoiinkaaGreat
namespace Go.Proofs.YtgkofgifoiinkaaGreat
open Go.RowKit
def UseOk (ps:List Pg) (N:Nat) (l:List Int):Prop:=ps.length=N∧∀ k:Nat,k < N→ps[k]? = some (if (k:Int)∈l then (true,true) else (false,false))
theorem UseOk.start (N:Nat):UseOk (freshP N) N []:=⟨freshP_length N,fun k hk=>by simp [freshP,hk]⟩
theorem UseOk.step {ps:List Pg} {N:Nat} {l:List Int} (h:UseOk ps N l) {k:Nat} (hk:k < N) (hn:(k:Int) ∉ l):ucode ps (k:Int)=0∧UseOk (udone ps (k:Int)) N (l++[(k:Int)]):=by
 have h1:=h.2 k hk
 rw [if_neg hn] at h1
 have e:pgAt ps (k:Int)=some (false,false):=by rw [pgAt_nat]; exact h1
 have hc:ucode ps (k:Int)=0:=by unfold ucode; rw [e]; rfl
 have hd:udone ps (k:Int)=ps.set k (true,true):=by unfold udone; rw [e]; rfl
 refine ⟨hc,by rw [hd,List.length_set]; exact h.1,fun j hj=>?_⟩
 rw [hd]
 by_cases ej:j=k
 ·subst ej
  rw [List.getElem?_set_self (by rw [h.1]; exact hj),if_pos (by simp)]
 ·rw [List.getElem?_set_ne (fun e=>ej e.symm),h.2 j hj]
  have:((j:Int)∈l++[(k:Int)])↔(j:Int)∈l:=by simp; omega
  by_cases hm:(j:Int)∈l
  ·rw [if_pos hm,if_pos (this.2 hm)]
  ·rw [if_neg hm,if_neg (fun h=>hm (this.1 h))]
theorem mem_sortedI (l:List Int) (x:Int):x∈sortedI l↔x∈l:=(List.mergeSort_perm l _).mem_iff
theorem UseOk.pg {ps:List Pg} {N:Nat} {pgs:List Nat} (h:UseOk ps N (sortedI (ints pgs))):PgOk ps N pgs:=⟨h.1,fun k hk=>by
 have e:((k:Int)∈sortedI (ints pgs))↔k∈pgs:=by
  rw [mem_sortedI]
  unfold ints
  rw [List.mem_map]
  exact ⟨fun ⟨j,hj,e⟩=>by have:j=k:=by omega
                          exact this ▸ hj,fun h=>⟨k,h,rfl⟩⟩
 rw [h.2 k hk]
 by_cases hm:k∈pgs
 ·rw [if_pos hm,if_pos (e.2 hm)]
 ·rw [if_neg hm,if_neg (fun h=>hm (e.1 h))]⟩
theorem sortedI_nodup {pgs:List Nat} (h:pgs.Nodup):(sortedI (ints pgs)).Nodup:=by
 refine (List.mergeSort_perm _ _).nodup_iff.2 ?_
 unfold ints
 exact List.pairwise_map.2 (h.imp fun hne e=>hne (by omega))
theorem take_not {l:List Int} (h:l.Nodup) {r:Nat} {x:Int} (hx:l[r]? = some x):x ∉ l.take r:=fun hm=>by
 have h1:l=l.take r++l.drop r:=(List.take_append_drop r l).symm
 rw [h1,List.nodup_append] at h
 have hr:=(List.getElem?_eq_some_iff.1 hx)
 have h2:x∈l.drop r:=by
  rw [List.mem_iff_getElem?]
  exact ⟨0,by rw [List.getElem?_drop]; exact hx⟩
 exact h.2.2 x hm x h2 rfl
theorem done_next {P:List Pr} (hr:RiseP P) {r:Nat} {p:Pr} (hp:P[r]? = some p):doneC (P.take r) [⟨p.1,p.2,false⟩]=P.take (r+1):=by
 have h1:P.take (r+1)=P.take r++[p]:=by rw [List.take_add_one,hp]; rfl
 have hlt:=(List.getElem?_eq_some_iff.1 hp).1
 have h2:RiseP (P.take r++[p]):=by rw [← h1]; exact hr.sublist (List.take_sublist _ _)
 have h3:∀ q∈P.take r,cmp q.1 p.1 < 0:=fun q hq=>(List.pairwise_append.1 h2).2.2 q hq p (by simp)
 rw [h1]
 show doneW (P.take r) ⟨p.1,p.2,false⟩=_
 unfold doneW
 rw [if_neg (by simp)]
 have h4:=putP_ahead (x:=[]) (k:=p.1) (v:=p.2) h3
 rw [List.append_nil] at h4
 exact h4
theorem ok_take {P:List Pr} (h:okUp P) (r:Nat):okUp (P.take r):=⟨fun p hp=>h.1 p (List.mem_of_mem_take hp),h.2.sublist (List.take_sublist _ _)⟩
section
variable {w:World} {sb db pb tb mb g n N:Nat} {jv:Value} {pg:Int} {D:Dv} {dead:Bool} {P0:List Pr} {pgs:List Nat} {F G:Nat→Prop}
def Gathers (w:World) (sb db pb tb mb:Nat) (jv:Value) (D:Dv) (g:Nat) (dead:Bool) (P0:List Pr) (pgs:List Nat) (N:Nat) (F G:Nat→Prop) (e:Ending) (w':World):Prop :=
 e = .returned (err 0)∧∃ ps',StB w' sb db pb tb mb jv D ps' g dead P0 F G∧PgOk ps' N pgs∧Step (BS sb mb F G) w w' (BS sb mb F G)
set_option maxRecDepth 100000 in
set_option maxHeartbeats 4000000 in
theorem sgather_any (h:StB w sb db pb tb mb jv D (freshP N) g dead [] F G) (ho:D.on=true) (hR:Rt (blkOf D 362) N pg P0 pgs) (hnd:pgs.Nodup) (hpl:pgs.length≤4096) (hok:okUp P0) (hP:P0.length≤100000) :
  Calls Tryz.prog 63 #[ptr sb, .int .i64 pg] w (Gathers w sb db pb tb mb jv D g dead P0 pgs N F G):=by
 have hplt:=hR.lt.1
 have WK:=walk_any h.trs ho (by rw [freshP_length]; exact hR) hpl
 have c2:=h.top.cells.2.2.1
 have HH:=Lib.hid (anZ h (anZ ho (anZ hR (anZ hnd (anZ hpl (anZ hok (anZ hP hplt)))))))
 clear h ho hR hnd hpl hok hP hplt
 go_enter Tryz.func63,Tryz.ntmps63
 go_wp2_with fail
 refine WK.mono ?_
 rintro e w1 ⟨v,rfl,hrd,hb1⟩
 clear WK c2
 obtain ⟨va,vc,rfl, -⟩:=hrd.shape
 obtain ⟨L,hL⟩:∃ L,L=sortedI (ints pgs):=⟨_,rfl⟩
 rw [← hL] at hrd
 obtain ⟨ln,hln⟩:∃ ln,ln=L.length:=⟨_,rfl⟩
 rw [← hL, ← hln]
 rw [← hln] at hrd
 have hlnp:ln=pgs.length:=by rw [hln,hL]; unfold sortedI; rw [List.length_mergeSort,ints_length]
 have hln6:ln≤4096:=by rw [hlnp]; exact HH.out.2.2.2.2.1
 have HA:=Lib.hid (anZ hrd (anZ hb1 (anZ (HH.out.1.below hb1) (anZ hL hln))))
 clear hrd hb1 hL hln hlnp
 go_wp2_with fail
 go_loopw [27] (fun i wr=>∃ (r:Nat) (ps':List Pg),r≤ln∧i = .int .i64 (r:Int)∧StB wr sb db pb tb mb jv D ps' g dead [] F G∧UseOk ps' N (L.take r)∧Only (fun q=>F q∨G q) w1 wr) (fun i _=>ln-(intOf i).toNat)
 case atStart=>exact ⟨0,freshP N,Nat.zero_le _,rfl,HA.out.2.2.1,by rw [List.take_zero]; exact UseOk.start N,Only.refl _ _⟩
 case round =>
  obtain ⟨r,ps',hr,rfl,hB,hU,ho⟩:=hrel
  by_cases hlt:r < ln
  ·obtain ⟨x,hx⟩:∃ x,L[r]? = some x:=⟨_,List.getElem?_eq_getElem (by have:=HA.out.2.2.2.2; omega)⟩
   obtain ⟨k,hkp,hkx⟩:∃ k:Nat,k∈pgs∧(k:Int)=x:=by
    have h1:=List.mem_of_getElem? hx
    rw [HA.out.2.2.2.1,mem_sortedI] at h1
    exact List.mem_map.1 h1
   subst hkx
   have hkN:=HH.out.2.2.2.2.2.2.2 k hkp
   have hnot:(k:Int) ∉ L.take r:=take_not (by rw [HA.out.2.2.2.1]; exact sortedI_nodup HH.out.2.2.2.1) hx
   obtain ⟨hc0,hU2⟩:=hU.step hkN hnot
   have hrdr:=(show Rd kdIn w1 (fun q=>F q∨G q) (.slice va ln vc) L from HA.out.1).step ⟨ho,fun _ h=>.inl h⟩
   obtain ⟨gg,o,cap,t,e0,ht, -, -,hcell, -⟩:=hrdr.at hx
   rw [← HA.out.2.2.2.2] at e0
   simp only [Value.slice.injEq] at e0
   obtain ⟨rfl, -,rfl⟩:=e0
   have hcx:wr.cell? ⟨gg,o+r,none⟩=some (.int .i64 (k:Int)):=by
    have h1:=hcell 0 _ rfl
    rw [Nat.add_zero,show kdIn.sz=1 from rfl,Nat.mul_one,show t=(k:Int) from ht] at h1
    exact h1
   have US:=use_any hB.pgs (k:Int)
   rw [hc0] at US
   obtain ⟨c0,c1,c2,c3,c4,c5,c6,c7⟩:=hB.top.cells
   have hil:(r:Int) < (ln:Int):=by omega
   have hr0:(0:Int)≤(r:Int):=by omega
   have htk:L.take r++[(k:Int)]=L.take (r+1):=by rw [List.take_add_one,hx]; rfl
   rw [htk] at hU2
   have hpl:(udone ps' (k:Int)).length=ps'.length:=by rw [hU2.1,hU.1]
   have HB:=Lib.hid (anZ hB (anZ hU2 (anZ ho (anZ hlt hpl))))
   clear hB hU ho hU2 hpl hlt hr hx hkp hkN hnot hc0 hrdr ht hcell htk
   go_wp2_with fail
   refine US.mono ?_
   rintro e w2 ⟨rfl,hp2,ho2⟩
   clear US c0 c1 c2 c3 c4 c5 c6 c7 hcx
   obtain ⟨hB2, -⟩:=HB.out.1.pags hp2 ho2 HB.out.2.2.2.2
   have HC:=Lib.hid (anZ hB2 (HB.out.2.2.1.trans (ho2.mono fun q _ hq=>.inr hq)))
   clear hB2 hp2 ho2
   go_wp2
   go_roundw
   case rel=>exact ⟨r+1,_,HB.out.2.2.2.1,by go_num,HC.out.1,HB.out.2.1,HC.out.2⟩
   case measure =>
    have:=HB.out.2.2.2.1
    simp [intOf]; omega
  ·obtain rfl:r=ln:=by omega
   have hil:¬ (r:Int) < (r:Int):=by omega
   have hpg:PgOk ps' N pgs:=by
    rw [HA.out.2.2.2.2,List.take_length,HA.out.2.2.2.1] at hU
    exact hU.pg
   have HB:=Lib.hid (anZ hB (anZ hpg ho))
   have c2:=hB.top.cells.2.2.1
   have hS:=hB.lt
   have SC:=scan_any (hB.trs.more (fun q hq=>.inr (.inr hq)) hB.lt hB.tout) HH.out.2.1 (Bsf.nil wr (BS sb mb F G)) (Bsf.nil wr (BS sb mb F G)) (by rw [hU.1]; exact HH.out.2.2.1) HH.out.2.2.2.2.1
   rw [inSpan_all] at SC
   clear hB hU ho hpg hlt hr hS
   go_wp2_with fail
   refine SC.mono ?_
   rintro e w2 ⟨v,rfl,hrd,hb2⟩
   clear SC c2
   obtain ⟨sa,sc,rfl, -⟩:=hrd.shape
   obtain ⟨sn,hsn⟩:∃ sn,sn=P0.length:=⟨_,rfl⟩
   rw [← hsn] at hrd
   rw [← hsn]
   have hsn6:sn≤100000:=by rw [hsn]; exact HH.out.2.2.2.2.2.2.1
   have hst2:Step (BS sb mb F G) w w2 (BS sb mb F G):=((Step.of_below HA.out.2.1 (BS sb mb F G)).trans ⟨HB.out.2.2.mono fun q _ hq=>.inr (.inr hq),fun q hq=>.inl hq⟩).bel hb2
   have HD:=Lib.hid (anZ hrd (anZ (HB.out.1.below hb2) (anZ hsn hst2)))
   clear hrd hb2 hsn hst2
   go_wp2_with fail
   go_loopw [55] (fun i wx=>∃ r2:Nat,r2≤sn∧i = .int .i64 (r2:Int)∧StB wx sb db pb tb mb jv D ps' g dead (P0.take r2) F G∧Step (BS sb mb F G) w2 wx (BS sb mb F G)) (fun i _=>sn-(intOf i).toNat)
   case atStart=>exact ⟨0,Nat.zero_le _,rfl,HD.out.2.1,Step.refl _ _⟩
   case round =>
    obtain ⟨r2,hr2,rfl,hB,hst⟩:=hrel
    by_cases hlt:r2 < sn
    ·obtain ⟨⟨k1,k2⟩,hx⟩:∃ x,P0[r2]? = some x:=⟨_,List.getElem?_eq_getElem (by have:=HD.out.2.2.1; omega)⟩
     have hok:=HH.out.2.2.2.2.2.1
     have hpok:=hok.1 _ (List.mem_of_getElem? hx)
     obtain ⟨gg,o,cap,ka,kc,xa,xc,e0,hgl,q0,q1,bk,bv⟩:=(HD.out.1.step hst).par (by rw [← hx])
     rw [← HD.out.2.2.1] at e0
     simp only [Value.slice.injEq] at e0
     obtain ⟨rfl, -,rfl⟩:=e0
     have hil2:(r2:Int) < (sn:Int):=by omega
     have hr20:(0:Int)≤(r2:Int):=by omega
     obtain ⟨kn,hkn⟩:∃ kn,kn=k1.length:=⟨_,rfl⟩
     obtain ⟨xn,hxn⟩:∃ xn,xn=k2.length:=⟨_,rfl⟩
     simp only at q0 q1 bk bv
     rw [← hkn] at q0 bk
     rw [← hxn] at q1 bv
     obtain ⟨wb,hwb⟩:∃ wb,wb=wr.alloc (.cells #[.slice ka kn kc, .slice xa xn xc] 68):=⟨_,rfl⟩
     have hbb:Below wr.heap.size wr wb:=by rw [hwb]; exact (Below.refl _ _).alloc (Nat.le_refl _) _
     have CB:Cel wb wr.heap.size [.slice ka kn kc, .slice xa xn xc] 68:=by rw [hwb]; exact Cel.new wr _ _
     have hBb:=hB.below hbb
     have e1:wb.heap.size=wr.heap.size+1:=by rw [hwb]; simp
     have hsb:=Step.of_below hbb (BS sb mb F G)
     have hlit:=rd_lit kdWr wb 61 (BS sb mb F G) hBb.lt [⟨⟨ka,kn,kc⟩,⟨xa,xn,xc⟩,⟨k1,k2,false⟩⟩] #[.slice ka kn kc, .slice xa xn xc, .bool false] rfl (fun t ht=>by rw [List.mem_singleton.1 ht]; exact ⟨bk.step hsb,bv.step hsb⟩) (by show 1≤1000; decide) (n:=1) rfl
     rw [e1] at hlit
     have hb3:Below wb.heap.size wb (wb.alloc (.cells #[.slice ka kn kc, .slice xa xn xc, .bool false] 61)):=(Below.refl _ _).alloc (Nat.le_refl _) _
     have hB3:=hBb.below hb3
     have hdn:=done_next hok.2 hx
     have DO:=sdo_any (S:=BS sb mb F G) hB3.top hB3.map (ok_take hok r2) (by rw [List.length_take]; have:=HH.out.2.2.2.2.2.2.1; omega) hlit (.inl rfl) (.inr (.inl rfl)) (fun y hy=>by rw [List.mem_singleton.1 hy]; exact ⟨hpok,fun h=>by cases h⟩) (by show 1≤100000; decide)
     rw [show doneC (P0.take r2) ([(⟨⟨ka,kn,kc⟩,⟨xa,xn,xc⟩,⟨k1,k2,false⟩⟩:WT)].map kdWr.con)=P0.take (r2+1) from hdn] at DO
     have d0:wb.cell? ⟨wr.heap.size,0,none⟩=some (.slice ka kn kc):=CB.cell 0
     have d1:wb.cell? ⟨wr.heap.size,1,none⟩=some (.slice xa xn xc):=CB.cell 1
     have HE:=Lib.hid (anZ hB3 (anZ ((hst.trans hsb).bel hb3) hlt))
     rw [hwb] at d0 d1 DO
     have HWB:=Lib.hid hwb
     clear hok hpok bk bv hkn hxn hwb hbb CB hBb e1 hsb hlit hb3 hB3 hdn hB hst hx hlt hr2
     go_wp2_with fail
     refine DO.mono ?_
     rintro e w5 ⟨rfl,hd5⟩
     clear DO d0 d1 q0 q1
     rw [← HWB.out] at hd5
     obtain ⟨hB5,hst5⟩:=HE.out.1.does hd5
     have HF:=Lib.hid (anZ hB5 (HE.out.2.1.trans hst5))
     clear hB5 hst5 hd5
     go_wp2
     go_roundw
     case rel=>exact ⟨r2+1,HE.out.2.2,by go_num,HF.out⟩
     case measure =>
      have:=HE.out.2.2
      simp [intOf]; omega
    ·obtain rfl:r2=sn:=by omega
     have hil2:¬ (r2:Int) < (r2:Int):=by omega
     rw [HD.out.2.2.1,List.take_length] at hB
     have HE:=Lib.hid (anZ hB (HD.out.2.2.2.trans hst))
     clear hB hst hlt hr2
     go_wp2
     go_ret
     exact ⟨rfl,_,HE.out.1,HB.out.2.1,HE.out.2⟩
end
end Go.Proofs.YtgkofgifoiinkaaGreat
namespace Go.Proofs.YtgkofgifoiinkaaGreat
open Go.RowKit Go.Maps
def Piece (w:World) (S:Nat→Prop) (own rest:Bytes) (e:Ending) (w':World):Prop:=∃ v1 v2,e = .returned (.tuple #[v1,v2, .bool true])∧Bsf w S v1 own∧Bsf w S v2 rest∧∃ m,w'=w.drewN m
set_option maxHeartbeats 1000000 in
theorem piece_any {w:World} {S:Nat→Prop} {v:Value} {own rest:Bytes} {k:Nat} (h:Bsf w S v (UInt8.ofNat k::(own++rest))) (hk:own.length=k) (hk2:k < 256):Calls Tryz.prog 103 #[v] w (Piece w S own rest):=by
 have hlen:=h.1.len
 obtain ⟨g,o,cap,rfl,hcap,hg,hc⟩:=h.1.open (by simp)
 obtain ⟨n,hn⟩:∃ n,n=(UInt8.ofNat k::(own++rest)).length:=⟨_,rfl⟩
 rw [← hn] at h hcap hlen ⊢
 have hn2:n=1+k+rest.length:=by rw [hn]; simp; omega
 have c0:w.cell? ⟨g,o,none⟩=some (.int .u8 (k:Int)):=by
  have:=hc 0 (UInt8.ofNat k) rfl
  rw [Nat.add_zero,UInt8.toNat_ofNat'] at this
  rw [this]
  congr 2
  omega
 have t1:((n:Int) == 0)=false:=by rw [beq_eq_false_iff_ne]; omega
 have t2:¬ (n:Int)-1 < (k:Int):=by omega
 have t3:(0:Int) < (n:Int):=by omega
 have w1:IntKind.i64.wrap ((n:Int)-1)=(n:Int)-1:=IntWalk.i64_in _ (by omega)
 have e2:(1:Int)+(k:Int)=((1+k:Nat):Int):=by omega
 have s1:∀ w1:World,(Instr.slice 24 (.slice (some ⟨g,o,none⟩) n cap) (some (.int .i64 1)) (some (.int .i64 ((1+k:Nat):Int))) none).run Tryz.prog w1 = .ok (sliced (some ⟨g,o,none⟩) 1 (1+k) cap 1) w1:=fun w1=>by
  have:=run_slice_lh (P:=Tryz.prog) w1 24 (some ⟨g,o,none⟩) n cap bt.slice' .i64 .i64 1 ((1+k:Nat):Int) (by omega) (by omega) (by omega)
  have e4:(1+(k:Int)).toNat=1+k:=by omega
  rw [this,bt.elem,bt.run_size]
  simp [Result.andThen,e4]
 have s2:∀ w1:World,(Instr.slice 24 (.slice (some ⟨g,o,none⟩) n cap) (some (.int .i64 ((1+k:Nat):Int))) none none).run Tryz.prog w1 = .ok (sliced (some ⟨g,o,none⟩) (1+k) n cap 1) w1:=run_slice_low (P:=Tryz.prog) bt (v:=.slice (some ⟨g,o,none⟩) n cap) rfl .i64 (1+k) (by omega)
 have b1:Bsf w S (sliced (some ⟨g,o,none⟩) 1 (1+k) cap 1) own:=by
  refine ⟨?_,fun _ q hq=>h.2 (by simp) q (by rw [← sliced_own _ _ _ _ _ n cap]; exact hq)⟩
  obtain ⟨a',cap',e,g1,g2,g3,g4⟩:=h.1
  simp only [Value.slice.injEq] at e
  obtain ⟨rfl, -,rfl⟩:=e
  have:=bs_sliced g1 g2 g3 g4 1 (1+k) (by omega) (by omega)
  have e3:((UInt8.ofNat k::(own++rest)).take (1+k)).drop 1=own:=by
   rw [Nat.add_comm 1 k,List.take_succ_cons,List.drop_succ_cons,List.drop_zero, ← hk,List.take_left]
  rw [e3] at this
  exact this
 have b2:Bsf w S (sliced (some ⟨g,o,none⟩) (1+k) n cap 1) rest:=by
  refine ⟨?_,fun _ q hq=>h.2 (by simp) q (by rw [← sliced_own _ _ _ _ _ n cap]; exact hq)⟩
  have:=bs_from h.1 (1+k) (by omega)
  have e3:(UInt8.ofNat k::(own++rest)).drop (1+k)=rest:=by
   rw [Nat.add_comm 1 k,List.drop_succ_cons, ← hk,List.drop_left]
  rw [e3] at this
  exact this
 obtain ⟨v1,hv1⟩:∃ v1,v1=sliced (some ⟨g,o,none⟩) 1 (1+k) cap 1:=⟨_,rfl⟩
 obtain ⟨v2,hv2⟩:∃ v2,v2=sliced (some ⟨g,o,none⟩) (1+k) n cap 1:=⟨_,rfl⟩
 rw [← hv1] at s1 b1
 rw [← hv2] at s2 b2
 rw [← e2] at s1 s2
 have HB:=Lib.hid (anZ b1 b2)
 have hk255:(k:Int) < 256:=by omega
 clear h hc hn hn2 hv1 hv2 b1 b2 hk e2
 go_enter Tryz.func103,Tryz.ntmps103
 go_wp2
 go_quiet (fail)
 go_wp2
 go_ret3
 exact ⟨v1,v2,rfl,HB.out.1,HB.out.2,_,rfl⟩
end Go.Proofs.YtgkofgifoiinkaaGreat
